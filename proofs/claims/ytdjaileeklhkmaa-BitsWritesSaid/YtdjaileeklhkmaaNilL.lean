/- BitsNil, as the law has it -/
import Derived.Test.YtdjaileeklhkmaaRE
import Derived.Test.YtdjaileeklhkmaaNil
import Derived.Deep.RegionHeld3
namespace Go.Proofs.Ytdjaileeklhkmaa
open Go.RowKit Go.Shelf

theorem zero_r (W : World) : RAt (W.alloc (.cells #[.slice none 0 0, .int .i64 0, .int .i64 0] 71)) W.heap.size (.slice none 0 0) [] 0 0 :=
  ⟨heap_alloc_new W _, bytes_nil _, Nat.le_refl _, Nat.le_refl _, Nat.zero_le _, Nat.zero_le _⟩
theorem zero_q (W : World) : QAt (W.alloc (.cells #[.slice none 0 0, .int .i64 0] 73)) W.heap.size (.slice none 0 0) [] 0 :=
  ⟨heap_alloc_new W _, bytes_nil _, fun x hx => by simp at hx, Nat.le_refl _, Nat.zero_le _, fun h => absurd rfl h⟩

theorem upd_up {W W' w5 : World} {p : Nat} (h : Upd NoB W W') (u : Upd (fun k => k = p) W' w5) (hp : W.heap.size ≤ p) : Upd (fun k => W.heap.size ≤ k) W w5 :=
  (h.mono (T := fun k => W.heap.size ≤ k) (fun _ _ h => h.elim)).trans u (fun i hi (e : i = p) => by subst e; exact hp)
theorem nil_keep {W w5 : World} {g : Nat} {c0 c1 c2 c3 : Value} {T : TypeId} (h : W.heap[g]? = some (.cells #[c0, c1, c2, c3] T (0, 0))) (t : Upd (fun k => W.heap.size ≤ k) W w5) :
    w5.cell? ⟨g, 0, none⟩ = some c0 ∧ w5.cell? ⟨g, 1, none⟩ = some c1 ∧ w5.cell? ⟨g, 2, none⟩ = some c2 ∧ w5.cell? ⟨g, 3, none⟩ = some c3 := by
  have hg := lt_of_block h
  have h5 := t.heap h (by show ¬ W.heap.size ≤ g; omega)
  exact ⟨blk_cell h5 0, blk_cell h5 1, blk_cell h5 2, blk_cell h5 3⟩
theorem up_next {W w5 w5' w6 : World} {q : Nat} (t : Upd (fun k => W.heap.size ≤ k) W w5) (h : Upd NoB w5 w5') (u : Upd (fun k => k = q) w5' w6) (hq : W.heap.size ≤ q) : Upd (fun k => W.heap.size ≤ k) W w6 :=
  (t.then h).trans u (fun i hi (e : i = q) => by subst e; exact hq)
theorem up_then {W w5 w5' w6 : World} (t : Upd (fun k => W.heap.size ≤ k) W w5) (h : Upd NoB w5 w5') (u : Upd NoB w5' w6) : Upd (fun k => W.heap.size ≤ k) W w6 := (t.then h).then u
theorem bytes_next {w5 w5' w6 : World} {bv : Value} {out : List Nat} {q : Nat} (rb : Row8 w5 bv out) (h : Upd NoB w5 w5') (u : Upd (fun k => k = q) w5' w6) (hne : ∀ k, bv.ownBlock = some k → k ≠ q) : Bytes w6 bv out :=
  bytes_upd (bytes_later rb.bytes h) u (fun _ k hk e => hne k hk e)
theorem nil_sep1 {n : Nat} : ∀ k, (k = n + 1 ∨ (([] : List Nat) ≠ [] ∧ (Value.slice none 0 0).ownBlock = some k)) → ¬ (fun k => k = n) k := by
  rintro k (rfl | ⟨h, _⟩)
  · show ¬ n + 1 = n; omega
  · exact absurd rfl h
theorem nil_sep2 {n : Nat} : ∀ k, (k = n ∨ (([] : List Nat) ≠ [] ∧ (Value.slice none 0 0).ownBlock = some k)) → ¬ (fun k => k = n + 1) k := by
  rintro k (rfl | ⟨h, _⟩)
  · show ¬ k = k + 1; omega
  · exact absurd rfl h
theorem readR_len (x : OpD) (zs : List Nat) (cnt at_ : Nat) : (readR x zs cnt at_).2.1.length ≤ cnt := by
  unfold readR
  split <;> try exact Nat.zero_le _
  split <;> try exact Nat.zero_le _
  split <;> try exact Nat.zero_le _
  split <;> try exact Nat.zero_le _
  split <;> try exact Nat.zero_le _
  split <;> try exact Nat.zero_le _
  unfold takeOut
  split
  · exact Nat.zero_le _
  · split
    · exact Nat.zero_le _
    · show (pack (bitsOf zs at_ x.n.toNat)).length ≤ cnt
      rw [pack_length, bitsOf_length]; omega
set_option maxRecDepth 100000 in
set_option maxHeartbeats 8000000 in
theorem nil_any (x : OpD) (w : World) (hx : x.at w) :
    Calls Try.prog 9 #[x.val] w fun e w' => e = .returned (.bool true) ∧ Upd NoB w w' := by
  obtain ⟨k, z, n, xsv, xz⟩ := x
  obtain ⟨sa, sc, hsv⟩ : ∃ sa sc, xsv = .slice sa xz.length sc := by obtain ⟨_, sa, sc, hsv, _⟩ := hx.2.1; exact ⟨sa, sc, hsv⟩
  subst hsv
  have hk : k ≤ 255 := hx.1
  have hzl : xz.length ≤ 140737488355328 := hx.2.2
  obtain ⟨Z, hZ⟩ : ∃ Z, Z = xz.length := ⟨_, rfl⟩
  have HZ := Lib.hid hZ
  have HX := Lib.hid hx
  rw [← hZ] at hzl
  change Calls _ _ #[.agg #[.int .u8 k, .int .i64 z, .int .i64 n, .slice sa xz.length sc]] w _
  rw [← hZ]
  clear hZ hx
  have hb := heap_alloc_new w (.cells #[.int .u8 k, .int .i64 z, .int .i64 n, .slice sa Z sc] 34)
  have u1 : Upd NoB w (w.alloc (.cells #[.int .u8 k, .int .i64 z, .int .i64 n, .slice sa Z sc] 34)) := (Upd.refl _ _).alloc _
  have U1 := Lib.hid u1; have HB := Lib.hid hb
  clear u1 hb
  go_enter Try.func9, Try.ntmps9
  by_cases hbig : 140000 < Z
  · have t0 : decide ((140000 : Int) < (Z : Int)) = true := decide_eq_true (by omega)
    go_wp2_with fail
    refine (awake_any _).mono ?_
    rintro e w2 ⟨rfl, u2⟩
    have U2 := Lib.hid (U1.out.trans u2 (fun k _ h => h)); clear u2
    go_wp2_with fail
    go_ret
    exact ⟨rfl, U2.out⟩
  have t0 : decide ((140000 : Int) < (Z : Int)) = false := decide_eq_false (by omega)
  go_wp2_with fail
  generalize hw1 : w.alloc (.cells #[.int .u8 k, .int .i64 z, .int .i64 n, .slice sa Z sc] 34) = w1 at *
  have HW1 := Lib.hid hw1; clear hw1
  have hat : OpD.at ⟨k, z, n, .slice sa Z sc, xz⟩ w1 := by have := HX.out.upd U1.out; rw [HZ.out]; exact this
  have HA := Lib.hid hat; clear hat
  refine (lwrite_nil ⟨k, z, n, .slice sa Z sc, xz⟩ w1 HA.out).mono ?_
  rintro e w2 ⟨rfl, u2⟩
  have U2 := Lib.hid (U1.out.trans u2 (fun k _ h => h))
  have HA2 := Lib.hid (HA.out.upd u2)
  have HB2 := Lib.hid (u2.heap HB.out (noB _))
  clear u2 U1 HA HB
  go_wp2_with fail
  refine (wlen_nil w2).mono ?_
  rintro e w2' ⟨rfl, rfl⟩
  go_wp2_with fail
  refine (wbytes_nil w2).mono ?_
  rintro e w2' ⟨rfl, rfl⟩
  have c0 := blk_cell HB2.out 0
  have c1 := blk_cell HB2.out 1
  have c2 := blk_cell HB2.out 2
  have c3 := blk_cell HB2.out 3
  go_wp2_with fail
  refine (lread_nil ⟨k, z, n, .slice sa Z sc, xz⟩ w2 HA2.out).mono ?_
  rintro e w3 ⟨rfl, u3⟩
  have U3 := Lib.hid (U2.out.trans u3 (fun k _ h => h))
  have HA3 := Lib.hid (HA2.out.upd u3)
  have HB3 := Lib.hid (u3.heap HB2.out (noB _))
  clear u3 U2 HA2 HB2 c0 c1 c2 c3
  have c0 := blk_cell HB3.out 0
  have c1 := blk_cell HB3.out 1
  have c2 := blk_cell HB3.out 2
  have c3 := blk_cell HB3.out 3
  obtain ⟨en, hen⟩ : ∃ en : Int, en = if k % 7 = 4 then 0 else 1 := ⟨_, rfl⟩
  have hen2 : (en = 0 ∧ (((k : Int) % 7) == 4) = true) ∨ (en = 1 ∧ (((k : Int) % 7) == 4) = false) := by
    by_cases h : k % 7 = 4
    · rw [if_pos h] at hen; exact .inl ⟨hen, beq_iff_eq.2 (by omega)⟩
    · rw [if_neg h] at hen; exact .inr ⟨hen, beq_eq_false_iff_ne.2 (by omega)⟩
  simp only [← hen]
  clear hen
  have hsz : w.heap.size < w3.heap.size := lt_of_block HB3.out
  rcases hen2 with ⟨rfl, hen2⟩ | ⟨rfl, hen2⟩
  all_goals
    go_wp2_with fail
    generalize hW : w3.alloc _ = W at *
    have U4 := Lib.hid (show Upd NoB w W by rw [← hW]; exact U3.out.alloc _)
    have HB4 := Lib.hid (show W.heap[w.heap.size]? = some (.cells #[.int .u8 k, .int .i64 z, .int .i64 n, .slice sa Z sc] 34 (0, 0)) by rw [← hW]; exact ((Upd.refl NoB w3).alloc _).heap HB3.out (noB _))
    clear hW U3 HB3 c0 c1 c2 c3 hsz hen2
    obtain ⟨r1, out, r3, r4, hR⟩ : ∃ r1 out r3 r4, readR ⟨k, z, n, .slice sa Z sc, xz⟩ [] 0 0 = (r1, out, r3, r4) := ⟨_, _, _, _, rfl⟩
    have hread : ∀ (p : Nat) (W' : World), RAt W' p (.slice none 0 0) [] 0 0 → Calls Try.prog 24 #[.pointer (some ⟨p, 0, none⟩), .agg #[.int .u8 k, .int .i64 z, .int .i64 n, .slice sa Z sc]] W' fun e w' =>
        ∃ bv, e = .returned (.agg #[.int .i64 r1, bv, .int .i64 r3, .int .i64 r4, .int .i64 (-r4)]) ∧ Row8 w' bv out ∧ newB W' bv ∧ Upd (fun k => k = p) W' w' := fun p W' h => by
      refine (lread_any ⟨k, z, n, .slice sa Z sc, xz⟩ p _ [] 0 0 W' h (fun h => absurd rfl h) hk).mono ?_
      rintro e w' ⟨bv, he, h1, h2, _, h3⟩
      rw [hR] at he h1
      refine ⟨bv, ?_, h1, h2, h3⟩
      rw [he]
      simp
    have hask : ∀ (p : Nat) (W' : World), QAt W' p (.slice none 0 0) [] 0 → Calls Try.prog 25 #[.pointer (some ⟨p, 0, none⟩), .agg #[.int .u8 k, .int .i64 z, .int .i64 n, .slice sa Z sc]] W' fun e w' =>
        ∃ bv, e = .returned (.agg #[.int .i64 r1, bv, .int .i64 r3, .int .i64 r4, .int .i64 (-r4)]) ∧ Row8 w' bv out ∧ newB W' bv ∧ Upd (fun k => k = p) W' w' := fun p W' h => by
      refine (lasked_any ⟨k, z, n, .slice sa Z sc, xz⟩ p _ [] 0 W' h hk).mono ?_
      rintro e w' ⟨bv, he, h1, h2, _, h3⟩
      have hq := readQ_eq ⟨k, z, n, .slice sa Z sc, xz⟩ [] 0 0 (Nat.le_refl _)
      rw [hR] at hq
      have e0 : bitsOf [] 0 0 = [] := rfl
      rw [e0] at hq
      rw [hq] at he h1
      refine ⟨bv, ?_, h1, h2, h3⟩
      rw [he]
      simp
    have Hread := Lib.hid hread; have Hask := Lib.hid hask
    have hout := readR_len ⟨k, z, n, .slice sa Z sc, xz⟩ [] 0 0
    rw [hR] at hout
    have Hout := Lib.hid (show out.length ≤ 1099511627776 from Nat.le_trans hout (by decide))
    clear hread hask hR hout
    have c0 := blk_cell HB4.out 0
    have c1 := blk_cell HB4.out 1
    have c2 := blk_cell HB4.out 2
    have c3 := blk_cell HB4.out 3
    have A1 := Lib.hid (zero_r W)
    have hB1 := (zero_r W).upd ((Upd.refl NoB _).alloc (.cells #[.slice none 0 0, .int .i64 0] 73)) (fun k _ => noB k)
    have hC2 := (zero_q W).upd ((Upd.refl NoB _).alloc (.cells #[.slice none 0 0, .int .i64 0, .int .i64 0] 71)) (fun k _ => noB k)
    have hC1 := zero_r (W.alloc (.cells #[.slice none 0 0, .int .i64 0] 73))
    have hB2 := zero_q (W.alloc (.cells #[.slice none 0 0, .int .i64 0, .int .i64 0] 71))
    have es : ∀ o, (W.alloc o).heap.size = W.heap.size + 1 := fun o => Array.size_push ..
    rw [es] at hC1 hB2
    have B2 := Lib.hid (show ∀ Wx : World, Wx.heap = ((W.alloc (.cells #[.slice none 0 0, .int .i64 0, .int .i64 0] 71)).alloc (.cells #[.slice none 0 0, .int .i64 0] 73)).heap → QAt Wx (W.heap.size + 1) (.slice none 0 0) [] 0 from fun Wx h => ⟨by rw [h]; exact hB2.1, bytes_nil _, hB2.2.2⟩)
    have C2 := Lib.hid (show ∀ Wx : World, Wx.heap = ((W.alloc (.cells #[.slice none 0 0, .int .i64 0] 73)).alloc (.cells #[.slice none 0 0, .int .i64 0, .int .i64 0] 71)).heap → QAt Wx W.heap.size (.slice none 0 0) [] 0 from fun Wx h => ⟨by rw [h]; exact hC2.1, bytes_nil _, hC2.2.2⟩)
    have B1 := Lib.hid hB1; have C1 := Lib.hid hC1
    clear hB1 hC1 hB2 hC2 es
    have KS := Lib.hid (fun (w5 : World) (t : Upd (fun k => W.heap.size ≤ k) W w5) => nil_keep HB4.out t)
    go_region_held3 (fun w' => w'.cell? ⟨w.heap.size, 0, none⟩ = some (.int .u8 k) ∧ w'.cell? ⟨w.heap.size, 1, none⟩ = some (.int .i64 z) ∧ w'.cell? ⟨w.heap.size, 2, none⟩ = some (.int .i64 n) ∧ w'.cell? ⟨w.heap.size, 3, none⟩ = some (.slice sa Z sc))
      (first | exact ⟨c0, c1, c2, c3⟩ | exact ⟨d0, d1, d2, d3⟩ | go_keep)
      (first | (go_at_call 12; refine (awake_any _).mono ?_; rintro e w8 ⟨rfl, u8⟩; have T8 := Lib.hid (up_then T7.out (by repeat (first | exact Upd.refl _ _ | refine Upd.drew ?_ | refine Upd.alloc ?_ _)) u8); clear u8 d0 d1 d2 d3; obtain ⟨d0, d1, d2, d3⟩ := KS.out _ T8.out) | (go_at_call 23; refine (lsame_any r1 r3 r4 (-r4) _ _ out _ RB6.out RC.out.bytes Hout.out).mono ?_; rintro e w7 ⟨rfl, u7⟩; have T7 := Lib.hid (up_then T6.out (by repeat (first | exact Upd.refl _ _ | refine Upd.drew ?_ | refine Upd.alloc ?_ _)) u7); clear u7 d0 d1 d2 d3; obtain ⟨d0, d1, d2, d3⟩ := KS.out _ T7.out) | (go_at_call 25; refine (Hask.out _ _ (by first | exact zero_q w5 | exact QAt.upd (B2.out _ (by rfl)) U5.out nil_sep1 | exact QAt.upd (C2.out _ (by rfl)) U5.out nil_sep2)).mono ?_; rintro e w6 ⟨cv, rfl, rc, nc, u6⟩; obtain ⟨ca, cc, rfl⟩ := row8_slice rc; have RC := Lib.hid rc; have U6 := Lib.hid u6; clear rc nc u6; have RB6 := Lib.hid (bytes_next RB.out (by repeat (first | exact Upd.refl _ _ | refine Upd.drew ?_ | refine Upd.alloc ?_ _)) U6.out (by first | (intro k hk e; have := (RB.out.1.lt k hk).2; omega) | (intro k hk e; have := NB.out k hk; simp at this; omega))); have T6 := Lib.hid (up_next T5.out (by repeat (first | exact Upd.refl _ _ | refine Upd.drew ?_ | refine Upd.alloc ?_ _)) U6.out (by first | exact Nat.le_refl _ | exact Nat.le_succ _ | exact T5.out.size)); clear d0 d1 d2 d3; obtain ⟨d0, d1, d2, d3⟩ := KS.out _ T6.out) | (go_at_call 24; refine (Hread.out _ _ (by first | exact A1.out | exact B1.out | exact C1.out)).mono ?_; rintro e w5 ⟨bv, rfl, rb, nb, u5⟩; obtain ⟨ba, bc, rfl⟩ := row8_slice rb; have RB := Lib.hid rb; have NB := Lib.hid nb; have U5 := Lib.hid u5; clear rb nb u5; have T5 := Lib.hid (upd_up (W := W) (by repeat (first | exact Upd.refl _ _ | refine Upd.drew ?_ | refine Upd.alloc ?_ _)) U5.out (by first | exact Nat.le_refl _ | exact Nat.le_succ _)); obtain ⟨d0, d1, d2, d3⟩ := KS.out _ T5.out))
    all_goals
      go_wp2_with fail
      go_ret
      refine ⟨rfl, U4.out.trans (up_then T8.out (by repeat (first | exact Upd.refl _ _ | refine Upd.drew ?_ | refine Upd.alloc ?_ _)) (Upd.refl _ _)) (fun i hi h => ?_)⟩
      have := U4.out.size
      have h : W.heap.size ≤ i := h
      omega
end Go.Proofs.Ytdjaileeklhkmaa
