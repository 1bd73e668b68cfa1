/- BitsWrites, as the law has it -/
import Derived.Test.YtdjaileeklhkmaaVT
import Derived.Test.YtdjaileeklhkmaaReadsL
namespace Go.Proofs.Ytdjaileeklhkmaa
open Go.RowKit Go.Shelf

/-- Both writers, with the same bits. -/
structure Two (w wr : World) (p q : Nat) (l : List Nat) (l2 : List Nat) (v u : Value) : Prop where
  wat : WAt wr p l v
  vat : VAt wr q l2 u
  upd : Upd NoB w wr
  nv : newB w v
  nu : newB w u
  part : ∀ k, v.ownBlock = some k → u.ownBlock ≠ some k
  len : l.length ≤ 1048576
theorem Two.later {w wr w2 : World} {p q : Nat} {l l2 : List Nat} {v u : Value} (h : Two w wr p q l l2 v u) (d : Upd NoB wr w2) : Two w w2 p q l l2 v u :=
  ⟨h.wat.upd d (fun k _ => noB k), h.vat.later d, h.upd.then d, h.nv, h.nu, h.part, h.len⟩
theorem Two.apart {w wr : World} {p q : Nat} {l l2 : List Nat} {v u : Value} (h : Two w wr p q l l2 v u) : p ≠ q ∧ v.ownBlock ≠ some q ∧ u.ownBlock ≠ some p := by
  refine ⟨fun e => ?_, row_ne h.wat.2.1 h.vat.1 (by decide), row_ne h.vat.2.1.1 h.wat.1 (by decide)⟩
  have h1 := h.wat.1
  have h2 := h.vat.1
  rw [e, h2] at h1
  simp at h1
theorem Two.step1 {w wr w2 : World} {p q : Nat} {l l2 bs : List Nat} {v u : Value} {bad : Prop} {r : Int} (h : Two w wr p q l l2 v u) (hp : w.heap.size ≤ p) (hr : WRes p v wr l bad bs (.returned (.int .i64 r)) w2) :
    ∃ v', Two w w2 p q (if r = 0 then l ++ bs else l) l2 v' u ∧ Upd (wfoot p v) wr w2 := by
  obtain ⟨r', e, ⟨_, rfl, d⟩ | ⟨_, _, rfl, d⟩ | ⟨_, hf, rfl, v', a', d, n'⟩⟩ := hr
  · cases e; exact ⟨v, by rw [if_neg (by decide)]; exact h.later d, d.mono (fun _ _ h => h.elim)⟩
  · cases e; exact ⟨v, by rw [if_neg (by decide)]; exact h.later d, d.mono (fun _ _ h => h.elim)⟩
  · cases e
    obtain ⟨e1, e2, e3⟩ := h.apart
    refine ⟨v', ?_, d⟩
    rw [if_pos rfl]
    refine ⟨a', h.vat.upd d (fun k hk hw => ?_), h.upd.trans d (fun i hi hw => ?_), fun k hk => ?_, h.nu, fun k hk hu => ?_, by rw [List.length_append]; exact hf⟩
    · rcases hk with rfl | hk <;> rcases hw with hw | hw
      · exact e1 hw.symm
      · exact e2 hw
      · subst hw; exact e3 hk
      · exact h.part k hw hk
    · rcases hw with rfl | hw
      · omega
      · have := h.nv i hw; omega
    · rcases n' k hk with h' | h'
      · exact h.nv k h'
      · have := h.upd.size; omega
    · rcases n' k hk with h' | h'
      · exact h.part k h' hu
      · have := (h.vat.2.1.1.lt k hu).2; omega
theorem Two.step2 {w wr w2 : World} {p q : Nat} {l l2 bs : List Nat} {v u : Value} {bad : Prop} {r : Int} (h : Two w wr p q l l2 v u) (hq : w.heap.size ≤ q) (hr : VRes q u wr l2 bad bs (.returned (.int .i64 r)) w2) :
    ∃ u', Two w w2 p q l (if r = 0 then l2 ++ bs else l2) v u' ∧ Upd (wfoot q u) wr w2 := by
  obtain ⟨r', e, ⟨_, rfl, d⟩ | ⟨_, _, rfl, d⟩ | ⟨_, hf, rfl, u', a', d, n'⟩⟩ := hr
  · cases e; exact ⟨u, by rw [if_neg (by decide)]; exact h.later d, d.mono (fun _ _ h => h.elim)⟩
  · cases e; exact ⟨u, by rw [if_neg (by decide)]; exact h.later d, d.mono (fun _ _ h => h.elim)⟩
  · cases e
    obtain ⟨e1, e2, e3⟩ := h.apart
    refine ⟨u', ?_, d⟩
    rw [if_pos rfl]
    refine ⟨h.wat.upd d (fun k hk hw => ?_), a', h.upd.trans d (fun i hi hw => ?_), h.nv, fun k hk => ?_, fun k hk hu => ?_, h.len⟩
    · rcases hk with rfl | hk <;> rcases hw with hw | hw
      · exact e1 hw
      · exact e3 hw
      · subst hw; exact e2 hk
      · exact h.part k hk hw
    · rcases hw with rfl | hw
      · omega
      · have := h.nu i hw; omega
    · rcases n' k hk with h' | h'
      · exact h.nu k h'
      · have := h.upd.size; omega
    · rcases n' k hu with h' | h'
      · exact h.part k hk h'
      · have := (h.wat.2.1.lt k hk).2; omega
theorem res_same {p q : Nat} {v u : Value} {wr w2 w3 w4 : World} {l bs : List Nat} {bad : Prop} {r r' : Int} (h : WRes p v wr l bad bs (.returned (.int .i64 r)) w2) (k : VRes q u w3 l bad bs (.returned (.int .i64 r')) w4) : r' = r := by
  obtain ⟨a, e, ha⟩ := h
  obtain ⟨b, e', hb⟩ := k
  cases e; cases e'
  rcases ha with ⟨h1, rfl, _⟩ | ⟨h1, h2, rfl, _⟩ | ⟨h1, h2, rfl, _⟩ <;> rcases hb with ⟨k1, rfl, _⟩ | ⟨k1, k2, rfl, _⟩ | ⟨k1, k2, rfl, _⟩ <;> first | rfl | exact absurd h1 k1 | exact absurd k1 h1 | omega
theorem two_foot {wr : World} {p : Nat} {l : List Nat} {v : Value} (h : WAt wr p l v) : ¬ wfoot p v wr.heap.size := by
  rintro (e | e)
  · have := lt_of_block h.1; omega
  · have := (h.2.1.lt _ e).2; omega
theorem two_foot2 {wr : World} {p : Nat} {l : List Nat} {v : Value} (h : VAt wr p l v) : ¬ wfoot p v wr.heap.size := by
  rintro (e | e)
  · have := lt_of_block h.1; omega
  · have := (h.2.1.1.lt _ e).2; omega
theorem VAt_new (w : World) : VAt (w.alloc (.cells #[.slice none 0 0] 32)) w.heap.size [] (.slice none 0 0) :=
  ⟨heap_alloc_new w _, row8_nil _, fun x hx => by simp at hx⟩
theorem two_start {w w1 : World} {p : Nat} (u1 : Upd NoB w w1) (h : WAt w1 p [] (.slice none 0 0)) : Two w (w1.alloc (.cells #[.slice none 0 0] 32)) p w1.heap.size [] [] (.slice none 0 0) (.slice none 0 0) :=
  ⟨h.upd ((Upd.refl NoB _).alloc _) (fun k _ => noB k), VAt_new w1, u1.alloc _, newB_nil _, newB_nil _, fun k hk => by simp [Value.ownBlock] at hk, Nat.zero_le _⟩
/-- What both answer. -/
noncomputable def rOf (l : List Nat) (bad : Prop) (bs : List Nat) : Int := open Classical in if bad then 1 else if 1048576 < l.length + bs.length then 2 else 0
theorem WRes.val {p : Nat} {v : Value} {w w' : World} {l bs : List Nat} {bad : Prop} {e : Ending} (h : WRes p v w l bad bs e w') : e = .returned (.int .i64 (rOf l bad bs)) := by
  obtain ⟨r, rfl, ⟨h1, rfl, _⟩ | ⟨h1, h2, rfl, _⟩ | ⟨h1, h2, rfl, _⟩⟩ := h <;> unfold rOf
  · rw [if_pos h1]
  · rw [if_neg h1, if_pos h2]
  · rw [if_neg h1, if_neg (by omega)]
theorem VRes.val {p : Nat} {v : Value} {w w' : World} {l bs : List Nat} {bad : Prop} {e : Ending} (h : VRes p v w l bad bs e w') : e = .returned (.int .i64 (rOf l bad bs)) := by
  obtain ⟨r, rfl, ⟨h1, rfl, _⟩ | ⟨h1, h2, rfl, _⟩ | ⟨h1, h2, rfl, _⟩⟩ := h <;> unfold rOf
  · rw [if_pos h1]
  · rw [if_neg h1, if_pos h2]
  · rw [if_neg h1, if_neg (by omega)]
theorem two_end {w wr : World} {p q : Nat} {l bs : List Nat} {v u : Value} {r r' : Int} (e : r' = r) (h : Two w wr p q (if r = 0 then l ++ bs else l) (if r' = 0 then l ++ bs else l) v u) : ∃ l', Two w wr p q l' l' v u := by
  subst e; exact ⟨_, h⟩
set_option maxRecDepth 100000 in
set_option maxHeartbeats 8000000 in
theorem writes_any (sv : Value) (xs : List OpD) (zero : Bool) (w : World) (h : Ops w sv xs) :
    Calls Try.prog 3 #[sv, .bool zero] w fun e w' => e = .returned (.bool true) ∧ Upd NoB w w' := by
  obtain ⟨a, cap, rfl, h1, h2, hq⟩ := id h
  unfold maxLen at h2
  obtain ⟨L, hL⟩ : ∃ L, L = xs.length := ⟨_, rfl⟩
  rw [← hL] at h1 h ⊢
  have HL := Lib.hid hL; have H := Lib.hid h
  clear h hq hL
  go_enter Try.func3, Try.ntmps3
  go_wp2_with fail
  refine (few_any _ xs w (by have := H.out; exact this)).mono ?_
  rintro e w1 ⟨rfl, u1⟩
  have U1 := Lib.hid u1
  clear u1
  cases hf : fewB xs with
  | false =>
    have Hf := Lib.hid hf; clear hf
    go_wp2_with fail
    refine (awake_any w1).mono ?_
    rintro e w2 ⟨rfl, u2⟩
    have U2 := Lib.hid (U1.out.trans u2 (fun k _ h => h)); clear u2
    go_wp2_with fail
    go_ret
    exact ⟨rfl, U2.out⟩
  | true =>
  obtain ⟨hsum, hl60⟩ : sumZ xs ≤ 140000 ∧ xs.length ≤ 60 := of_decide_eq_true hf
  have Hf := Lib.hid hf; have Hsum := Lib.hid hsum; clear hf hsum hl60
  go_wp2_with fail
  refine (new_any w1).mono ?_
  rintro e w2 ⟨rfl, rfl⟩
  have e1 : ∀ (w : World) (o : Obj), (w.alloc o).heap.size = w.heap.size + 1 := fun w o => Array.size_push ..
  have E1 := Lib.hid e1; clear e1
  cases zero
  case' false =>
    go_wp2_with fail
    have T0 := two_start (U1.out.alloc _) (WAt_new w1)
    rw [E1.out] at T0
    have hp : w.heap.size ≤ w1.heap.size := U1.out.size
    have hq : w.heap.size ≤ w1.heap.size + 1 := by omega
    generalize (w1.alloc (.cells #[.slice none 0 0, .int .i64 0] 29)).alloc (.cells #[.slice none 0 0] 32) = W3 at *
    generalize hqq : w1.heap.size + 1 = q at *
    clear hqq
    generalize w1.heap.size = p at *
  case' true =>
    go_wp2_with fail
    have T0 := two_start ((U1.out.alloc _).alloc _) (WAt_new (w1.alloc (.cells #[.slice none 0 0, .int .i64 0] 29)))
    simp only [E1.out] at T0
    have hp : w.heap.size ≤ w1.heap.size + 1 := by have := U1.out.size; omega
    have hq : w.heap.size ≤ w1.heap.size + 1 + 1 := by omega
    generalize ((w1.alloc (.cells #[.slice none 0 0, .int .i64 0] 29)).alloc (.cells #[.slice none 0 0, .int .i64 0] 29)).alloc (.cells #[.slice none 0 0] 32) = W3 at *
    generalize hqq : w1.heap.size + 1 + 1 = q at *
    clear hqq
    generalize hpp : w1.heap.size + 1 = p at *
    clear hpp
  all_goals
    have T0' := Lib.hid T0
    have Hp := Lib.hid hp; have Hq := Lib.hid hq
    clear T0 hp hq
    go_loopw [21] (fun i wr => ∃ (k : Nat) (l : List Nat) (v u : Value), k ≤ L ∧ i = .int .i64 k ∧ Two w wr p q l l v u) (fun i _ => L - (intOf i).toNat)
    case atStart => exact ⟨0, [], _, _, Nat.zero_le _, rfl, T0'.out⟩
    case round =>
      obtain ⟨k, l, v, u, hk, rfl, hT⟩ := hrel
      have HT := Lib.hid hT; clear hT T0'
      by_cases hlt : k < L
      · obtain ⟨x, hx⟩ : ∃ x, xs[k]? = some x := ⟨_, List.getElem?_eq_getElem (by rw [← HL.out]; exact hlt)⟩
        have hx0 := ops_get H.out hx
        have hxz : x.zs.length ≤ 140000 := Nat.le_trans (zs_le (List.mem_of_getElem? hx)) Hsum.out
        obtain ⟨a', cap', e, _, _, h3⟩ := H.out.upd HT.out.upd
        injection e with e1 e2 e3
        subst e1; subst e3
        rcases h3 with h3 | ⟨g, off, rfl, h3⟩
        · subst h3; simp at hx
        · obtain ⟨c0, c1, c2, c3, hat⟩ := h3 k x hx
          obtain ⟨kx, z, nx, xsv, xz⟩ := x
          obtain ⟨sa, sc, hsv⟩ : ∃ sa sc, xsv = .slice sa xz.length sc := by obtain ⟨_, sa, sc, hsv, _⟩ := hat.2.1; exact ⟨sa, sc, hsv⟩
          subst hsv
          simp only at c0 c1 c2 c3
          have hbW := heap_alloc_new wr (.cells #[.int .u8 kx, .int .i64 z, .int .i64 nx, .slice sa xz.length sc] 34)
          have hf1 := two_foot HT.out.wat
          have hf2 := two_foot2 HT.out.vat
          have hTW := HT.out.later ((Upd.refl NoB wr).alloc (.cells #[.int .u8 kx, .int .i64 z, .int .i64 nx, .slice sa xz.length sc] 34))
          have hatW := hat.upd ((Upd.refl NoB wr).alloc (.cells #[.int .u8 kx, .int .i64 z, .int .i64 nx, .slice sa xz.length sc] 34))
          have hsep := at_sep hx0 Hp.out HT.out.nv
          have HBW := Lib.hid hbW; have Hf1 := Lib.hid hf1; have Hf2 := Lib.hid hf2; have HTW := Lib.hid hTW; have HatW := Lib.hid hatW; have Hsep := Lib.hid hsep; have Hxz := Lib.hid hxz
          have Hx0 := Lib.hid hx0
          obtain ⟨r, hr⟩ : ∃ r, r = rOf l (OpD.bad ⟨kx, z, nx, .slice sa xz.length sc, xz⟩) (OpD.bits ⟨kx, z, nx, .slice sa xz.length sc, xz⟩ l) := ⟨_, rfl⟩
          obtain ⟨l', hl'⟩ : ∃ l', l' = if r = 0 then l ++ OpD.bits ⟨kx, z, nx, .slice sa xz.length sc, xz⟩ l else l := ⟨_, rfl⟩
          have hw : ∀ W', Upd NoB wr W' → Calls Try.prog 14 #[.pointer (some ⟨p, 0, none⟩), .agg #[.int .u8 kx, .int .i64 z, .int .i64 nx, .slice sa xz.length sc]] W' fun e w' => e = .returned (.int .i64 r) ∧ ∃ v', Two w w' p q l' l v' u ∧ Upd (wfoot p v) W' w' := fun W' d => by
            have T := HT.out.later d
            refine (lwrite_any ⟨kx, z, nx, .slice sa xz.length sc, xz⟩ p l v W' T.wat T.len (hat.upd d) hsep).mono ?_
            intro e w' h
            have he := h.val
            rw [← hr] at he
            subst he
            rw [hl']
            exact ⟨rfl, T.step1 Hp.out h⟩
          have ht : ∀ W' v', Two w W' p q l' l v' u → Calls Try.prog 15 #[.pointer (some ⟨q, 0, none⟩), .agg #[.int .u8 kx, .int .i64 z, .int .i64 nx, .slice sa xz.length sc]] W' fun e w' => e = .returned (.int .i64 r) ∧ ∃ u', Two w w' p q l' l' v' u' ∧ Upd (wfoot q u) W' w' := fun W' v' T => by
            refine (ltold_any ⟨kx, z, nx, .slice sa xz.length sc, xz⟩ q l u W' T.vat HT.out.len (hx0.upd T.upd) (by show xz.length ≤ _; have : xz.length ≤ 140000 := hxz; omega)).mono ?_
            intro e w' h
            have he := h.val
            rw [← hr] at he
            subst he
            obtain ⟨u', h1, h2⟩ := T.step2 Hq.out h
            rw [← hl'] at h1
            exact ⟨rfl, u', h1, h2⟩
          have Hw := Lib.hid hw; have Ht := Lib.hid ht
          clear h3 hat hx e2 hbW hf1 hf2 hTW hatW hsep hxz hx0 hr hl' hw ht
          have HuW := Lib.hid ((Upd.refl NoB wr).alloc (.cells #[.int .u8 kx, .int .i64 z, .int .i64 nx, .slice sa xz.length sc] 34))
          go_wp2_with fail
          generalize wr.alloc _ = W at *
          have d0 := blk_cell HBW.out 0
          have d1 := blk_cell HBW.out 1
          have d2 := blk_cell HBW.out 2
          have d3 := blk_cell HBW.out 3
          clear c0 c1 c2 c3
          go_region_held3 (fun w' => w'.cell? ⟨wr.heap.size, 0, none⟩ = some (.int .u8 kx) ∧ w'.cell? ⟨wr.heap.size, 1, none⟩ = some (.int .i64 z) ∧ w'.cell? ⟨wr.heap.size, 2, none⟩ = some (.int .i64 nx) ∧ w'.cell? ⟨wr.heap.size, 3, none⟩ = some (.slice sa xz.length sc))
            (first | exact ⟨d0, d1, d2, d3⟩ | go_keep)
            (first | (go_at_call 16; refine (wlen_some p (l'.length : Nat) _ (by exact T6.out.wat.len)).mono ?_; rintro e w7 ⟨rfl, rfl⟩) | (go_at_call 17; refine (vlen_any q l' u' _ (by exact T6.out.vat)).mono ?_; rintro e w7 ⟨rfl, rfl⟩) | (go_at_call 15; refine (Ht.out _ _ (by exact T5.out)).mono ?_; rintro e w6 ⟨rfl, u', t6, d6⟩; have T6 := Lib.hid t6; clear d0 d1 d2 d3; obtain ⟨d0, d1, d2, d3⟩ := keep4 (by exact HB5.out) d6 Hf2.out; clear t6 d6) | (go_at_call 14; refine (Hw.out _ (by first | exact HuW.out | exact HuW.out.drew)).mono ?_; rintro e w5 ⟨rfl, v', t5, d5⟩; have T5 := Lib.hid t5; have HB5 := Lib.hid (d5.heap HBW.out Hf1.out); clear d0 d1 d2 d3; obtain ⟨d0, d1, d2, d3⟩ := keep4 (by exact HBW.out) d5 Hf1.out; clear t5 d5))
          go_wp2_with fail
          go_roundw
          case rel => exact ⟨k + 1, l', _, _, by omega, by go_num, T6.out⟩
          case measure => simp [intOf]; omega
      · obtain rfl : k = L := by omega
        go_wp2_with fail
        refine (wbytes_any p l v wr HT.out.wat (by have := HT.out.len; omega)).mono ?_
        rintro e w5 ⟨v5, rfl, r5, u5, n5⟩
        have B5 := Lib.hid r5.bytes; have T5 := Lib.hid (HT.out.later u5)
        clear r5 u5 n5
        go_wp2_with fail
        refine (vbytes_any q l u w5 T5.out.vat T5.out.len).mono ?_
        rintro e w6 ⟨v6, rfl, r6, u6, n6⟩
        have B6 := Lib.hid r6.bytes; have B56 := Lib.hid (bytes_later B5.out u6); have U6 := Lib.hid (T5.out.upd.then u6)
        clear r6 u6 n6
        go_wp2_with fail
        refine (same_any v5 v6 (pack l) (pack l) w6 B56.out B6.out (by rw [pack_length]; have := HT.out.len; omega)).mono ?_
        rintro e w7 ⟨rfl, n7, rfl⟩
        rw [sameB_self]
        go_wp2_with fail
        refine (awake_any _).mono ?_
        rintro e w8 ⟨rfl, u8⟩
        have U8 := Lib.hid ((upd_drewN U6.out n7).then u8)
        clear u8
        go_wp2_with fail
        go_ret
        exact ⟨rfl, U8.out⟩
end Go.Proofs.Ytdjaileeklhkmaa
