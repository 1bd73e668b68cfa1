/- what was written is read again, as the law has it -/
import Derived.Test.YtdjaileeklhkmaaBackM
import Derived.Test.YtdjaileeklhkmaaPack
import Derived.Test.YtdjaileeklhkmaaRefused
namespace Go.Proofs.Ytdjaileeklhkmaa
open Go.RowKit Go.Shelf

def catW (l : List Nat) : List OpD → List Nat
  | [] => l
  | x :: xs => catW (l ++ x.bits l) xs
def okAll (l : List Nat) : List OpD → Prop
  | [] => True
  | x :: xs => okW l x ∧ okAll (l ++ x.bits l) xs
theorem done_cat : ∀ (xs : List OpD) (l : List Nat), bitsAll l xs = catW l (doneOf l xs) ∧ okAll l (doneOf l xs)
  | [], _ => ⟨rfl, trivial⟩
  | x :: xs, l => by
    have ih := done_cat xs (nextW l x)
    by_cases h : okW l x
    · simp only [bitsAll, doneOf, if_pos h, List.singleton_append, catW, okAll]
      rw [← nextW_ok h]
      exact ⟨ih.1, h, ih.2⟩
    · simp only [bitsAll, doneOf, if_neg h, List.nil_append]
      rw [nextW_bad h] at ih ⊢
      exact ih
theorem done_mem : ∀ (xs : List OpD) (l : List Nat), ∀ x ∈ doneOf l xs, x ∈ xs
  | [], _, x, h => by simp [doneOf] at h
  | y :: xs, l, x, h => by
    simp only [doneOf, List.mem_append] at h
    rcases h with h | h
    · split at h
      · have : x = y := by simpa using h
        rw [this]; exact List.mem_cons_self
      · simp at h
    · exact List.mem_cons_of_mem _ (done_mem xs _ x h)
theorem catW_pre : ∀ (xs : List OpD) (l : List Nat), ∃ R, catW l xs = l ++ R
  | [], l => ⟨[], by simp [catW]⟩
  | x :: xs, l => by
    obtain ⟨R, h⟩ := catW_pre xs (l ++ x.bits l)
    exact ⟨x.bits l ++ R, by rw [catW, h, List.append_assoc]⟩
theorem catW_mid : ∀ (ds : List OpD) (l : List Nat) (k : Nat) (x : OpD), okAll l ds → ds[k]? = some x →
    okW (catW l (ds.take k)) x ∧ catW l (ds.take (k + 1)) = catW l (ds.take k) ++ x.bits (catW l (ds.take k)) ∧ ∃ R, catW l ds = catW l (ds.take k) ++ (x.bits (catW l (ds.take k)) ++ R)
  | [], _, _, _, _, h => by simp at h
  | y :: ds, l, 0, x, ho, h => by
    have : y = x := by simpa using h
    subst this
    obtain ⟨R, hR⟩ := catW_pre ds (l ++ y.bits l)
    exact ⟨ho.1, by simp [catW], R, by simp only [List.take_zero, catW]; rw [hR, List.append_assoc]⟩
  | y :: ds, l, k + 1, x, ho, h => by
    have h' : ds[k]? = some x := by simpa using h
    exact catW_mid ds (l ++ y.bits l) k x ho.2 h'
theorem opCells_get : ∀ (ds : List OpD) (j : Nat) (x : OpD), ds[j]? = some x → (opCells ds)[j * 4]? = some (.int .u8 x.k) ∧ (opCells ds)[j * 4 + 1]? = some (.int .i64 x.v) ∧ (opCells ds)[j * 4 + 2]? = some (.int .i64 x.n) ∧ (opCells ds)[j * 4 + 3]? = some x.sv
  | [], _, _, h => by simp at h
  | y :: ds, 0, x, h => by
    have : y = x := by simpa using h
    subst this
    exact ⟨rfl, rfl, rfl, rfl⟩
  | y :: ds, j + 1, x, h => by
    have ih := opCells_get ds j x (by simpa using h)
    have e : opCells (y :: ds) = [.int .u8 y.k, .int .i64 y.v, .int .i64 y.n, y.sv] ++ opCells ds := rfl
    have es : ∀ c, (opCells (y :: ds))[(j + 1) * 4 + c]? = (opCells ds)[j * 4 + c]? := fun c => by
      rw [e, List.getElem?_append_right (by simp; omega)]
      congr 1
      simp; omega
    have e0 := es 0
    rw [Nat.add_zero, Nat.add_zero] at e0
    rw [e0, es 1, es 2, es 3]
    exact ih
theorem ops_of_row {w : World} {dv : Value} {ds : List OpD} (h : w.ownsRow 0 34 4 dv ds.length (opCells ds)) (hat : ∀ x ∈ ds, x.at w) : Ops w dv ds := by
  rcases h.2 with ⟨rfl, h0⟩ | ⟨g, cap, cur, rfl, _, hb, h1, h2, _⟩
  · have : ds = [] := List.eq_nil_of_length_eq_zero h0
    subst this
    exact ⟨none, 0, rfl, Nat.le_refl _, Nat.zero_le _, .inl rfl⟩
  · refine ⟨_, cap, rfl, h1, h2, ?_⟩
    by_cases hd : ds = []
    · exact .inl hd
    · refine .inr ⟨g, 0, rfl, fun j x hx => ?_⟩
      obtain ⟨c0, c1, c2, c3⟩ := opCells_get ds j x hx
      have k0 := h.cells (g := g) rfl _ _ c0
      have k1 := h.cells (g := g) rfl _ _ c1
      have k2 := h.cells (g := g) rfl _ _ c2
      have k3 := h.cells (g := g) rfl _ _ c3
      rw [addr_add] at k0 k1 k2 k3
      exact ⟨k0, by rw [Nat.add_assoc]; exact k1, by rw [Nat.add_assoc]; exact k2, by rw [Nat.add_assoc]; exact k3, hat x (List.mem_of_getElem? hx)⟩
theorem zs_le {xs : List OpD} {x : OpD} (h : x ∈ xs) : x.zs.length ≤ sumZ xs := by
  induction xs with
  | nil => cases h
  | cons y ys ih =>
    have e : sumZ (y :: ys) = y.zs.length + sumZ ys := by simp [sumZ]
    rcases List.mem_cons.1 h with rfl | h
    · omega
    · have := ih h; omega
theorem pack_take (L : List Nat) : (pack L).take ((L.length + 7) / 8) = pack L := List.take_of_length_le (by rw [pack_length]; exact Nat.le_refl _)

set_option maxRecDepth 100000 in
set_option maxHeartbeats 8000000 in
theorem back_any (sv : Value) (xs : List OpD) (w : World) (h : Ops w sv xs) :
    Calls Try.prog 6 #[sv] w fun e w' => e = .returned (.bool true) ∧ Upd NoB w w' := by
  obtain ⟨a, cap, rfl, h1, h2, hq⟩ := id h
  unfold maxLen at h2
  obtain ⟨L, hL⟩ : ∃ L, L = xs.length := ⟨_, rfl⟩
  rw [← hL] at h1 h ⊢
  have HL := Lib.hid hL; clear hL
  have H := Lib.hid h
  clear h hq
  go_enter Try.func6, Try.ntmps6
  go_wp2_with fail
  refine (few_any _ xs w (by have := H.out; exact this)).mono ?_
  rintro e w1 ⟨rfl, u1⟩
  have U1 := Lib.hid u1
  clear u1
  cases hf : fewB xs with
  | false =>
    have Hf := Lib.hid hf; clear hf
    go_wp2_with fail
    refine (awake_any w1).mono ?_
    rintro e w2 ⟨rfl, u2⟩
    have U2 := Lib.hid (U1.out.trans u2 (fun k _ h => h)); clear u2
    go_wp2_with fail
    go_ret
    exact ⟨rfl, U2.out⟩
  | true =>
  obtain ⟨hsum, hl60⟩ : sumZ xs ≤ 140000 ∧ xs.length ≤ 60 := of_decide_eq_true hf
  have Hl := Lib.hid hl60; clear hl60
  have Hsum := Lib.hid hsum; clear hsum
  have Hf := Lib.hid hf; clear hf
  go_wp2_with fail
  refine (written_any _ xs w1 (by have := H.out.upd U1.out; exact this) Hl.out).mono ?_
  rintro e w2 ⟨b, dv, rfl, hb, st⟩
  obtain ⟨v, wa, nv, sepd⟩ := st.wat
  have hlen := st.len
  have U2 := Lib.hid (U1.out.trans st.upd (fun k _ h => h))
  obtain ⟨hcat, hall⟩ := done_cat xs []
  have hdz : ∀ x ∈ doneOf [] xs, x.zs.length ≤ 140000 := fun x hx => Nat.le_trans (zs_le (done_mem xs _ x hx)) Hsum.out
  have hops : Ops w2 dv (doneOf [] xs) := ops_of_row st.row (fun x hx => by
    obtain ⟨k, hk⟩ := List.getElem?_of_mem (done_mem xs _ x hx)
    exact (ops_get H.out hk).upd U2.out)
  have hdl : (doneOf [] xs).length ≤ 60 := by
    have := doneOf_le xs xs.length []
    rw [List.take_length] at this
    exact Nat.le_trans this Hl.out
  clear st nv hb sepd
  rw [hcat] at wa hlen
  clear hcat
  generalize doneOf [] xs = ds at *
  obtain ⟨l, hl⟩ : ∃ l, l = catW [] ds := ⟨_, rfl⟩
  rw [← hl] at wa hlen
  have Hcat := Lib.hid hl; clear hl
  have A2 := Lib.hid wa; have Hlen := Lib.hid hlen
  have Hall := Lib.hid hall; have Hdz := Lib.hid hdz; have Hops := Lib.hid hops
  clear wa hlen hall hdz hops
  obtain ⟨D, hD⟩ : ∃ D, D = ds.length := ⟨_, rfl⟩
  obtain ⟨da, dc, rfl, hdc⟩ : ∃ da dc, dv = .slice da D dc ∧ D ≤ dc := by obtain ⟨da, dc, h, h2, _⟩ := Hops.out; exact ⟨da, dc, by rw [hD]; exact h, by rw [hD]; exact h2⟩
  rw [← hD] at hdl
  have HD := Lib.hid hD; clear hD
  go_wp2_with fail
  refine (wbytes_any b l v w2 A2.out (by have := Hlen.out; omega)).mono ?_
  rintro e w3 ⟨s, rfl, r3, u3, n3⟩
  have S3 := Lib.hid r3.bytes
  have U3 := Lib.hid u3
  have A3 := Lib.hid (A2.out.upd u3 (fun k _ => noB k))
  clear r3 n3 u3
  obtain ⟨n, hn⟩ : ∃ n, n = l.length := ⟨_, rfl⟩
  have Hn := Lib.hid hn; clear hn
  go_wp2_with fail
  refine (wlen_some b _ w3 A3.out.len).mono ?_
  rintro e w3' ⟨rfl, rfl⟩
  rw [← Hn.out]
  go_wp2_with fail
  refine (open_any s (pack l) n w3 S3.out (by rw [pack_length]; have := Hlen.out; omega)).mono ?_
  intro e w7 hr
  rcases hr with ⟨h, _⟩ | ⟨_, h, _⟩ | ⟨_, _, p, rv, rfl, hp, hR, nr, hs, u7⟩
  · exfalso; rw [pack_length] at h; have := Hn.out; omega
  · exfalso; have := Hn.out; have := Hlen.out; omega
  simp only [Int.toNat_natCast] at hR
  have hzs : (pack l).take ((n + 7) / 8) = pack l := by rw [Hn.out]; exact pack_take l
  rw [hzs] at hR
  have R7 := Lib.hid hR; have Hs := Lib.hid (fun (_ : pack l ≠ []) => hs)
  have hpw : w2.heap.size ≤ p := Nat.le_trans U3.out.size hp
  have Hp := Lib.hid hpw
  have U7 := Lib.hid (U3.out.trans u7 (fun k _ h => h) : Upd NoB w2 w7)
  clear hR hs nr u7 hp hpw S3 U3 hzs
  go_wp2_with fail
  go_loopw [41] (fun i wr => ∃ k : Nat, k ≤ D ∧ i = .int .i64 k ∧ RAt wr p rv (pack l) n (catW [] (ds.take k)).length ∧ Upd NoB w2 wr) (fun i _ => D - (intOf i).toNat)
  case atStart => exact ⟨0, Nat.zero_le _, rfl, R7.out, U7.out⟩
  case round =>
    obtain ⟨k, hk, rfl, hR, hu⟩ := hrel
    have HR := Lib.hid hR; have HU := Lib.hid hu; clear hR hu R7 U7
    by_cases hlt : k < D
    · obtain ⟨x, hx⟩ : ∃ x, ds[k]? = some x := ⟨_, List.getElem?_eq_getElem (by rw [← HD.out]; exact hlt)⟩
      obtain ⟨hok, hnx, R, hmid⟩ := catW_mid ds [] k x Hall.out hx
      have hM : Mid l (catW [] (ds.take k)) R x := ⟨by rw [Hcat.out]; exact hmid, A2.out.2.2, Hlen.out, hok.1⟩
      generalize catW [] (ds.take k) = P at *
      obtain ⟨a', cap', e, _, _, h3⟩ := Hops.out.upd HU.out
      injection e with e1 e2 e3
      subst e1; subst e3
      rcases h3 with h3 | ⟨g, off, rfl, h3⟩
      · subst h3; simp at hx
      · obtain ⟨c0, c1, c2, c3, hat⟩ := h3 k x hx
        have hz4 := Hdz.out x (List.mem_of_getElem? hx)
        have hat2 := ops_get Hops.out hx
        have Hat2 := Lib.hid hat2; clear hat2
        clear h3 hx e2 hmid hok
        obtain ⟨yk, yv, yn, ysv, yz⟩ := x
        obtain ⟨ya, yc, hsv⟩ : ∃ ya yc, ysv = .slice ya yz.length yc := by obtain ⟨_, ya, yc, hsv, _⟩ := hat.2.1; exact ⟨ya, yc, hsv⟩
        subst hsv
        have hyk : yk ≤ 255 := hat.1
        have ux : Upd NoB wr (wr.alloc (.cells #[.int .u8 yk, .int .i64 yv, .int .i64 yn, .slice ya yz.length yc] 34)) := (Upd.refl _ _).alloc _
        have cx := heap_alloc_new wr (.cells #[.int .u8 yk, .int .i64 yv, .int .i64 yn, .slice ya yz.length yc] 34)
        have Ux := Lib.hid ux; have Cx := Lib.hid cx; have HM := Lib.hid hM; have Hnx := Lib.hid hnx; have Hat := Lib.hid hat; have Hz4 := Lib.hid hz4
        have HRx := Lib.hid (HR.out.upd ux (fun k _ => noB k))
        have hpx : p ≠ wr.heap.size := fun e => by have := lt_of_block HR.out.1; omega
        clear ux cx hat hM hnx hz4
        have hkk : yk % 6 = 0 ∨ yk % 6 = 1 ∨ yk % 6 = 2 ∨ yk % 6 = 3 ∨ yk % 6 = 4 ∨ yk % 6 = 5 := by omega
        have hself : ((yv : Int) == yv) = true := by simp
        rcases hkk with hq | hq | hq | hq | hq | hq
        · have HQ := Lib.hid hq
          have t0 : (((yk : Int) % 6) == 0) = true := beq_iff_eq.2 (by omega)
          have hb := back0 HM.out hq
          rw [← Hn.out] at hb
          have Hb2 := Lib.hid hb
          clear hq hb
          go_wp2_with fail
          refine (get_any p rv (pack l) n P.length yn (wr.alloc (.cells #[.int .u8 yk, .int .i64 yv, .int .i64 yn, .slice ya yz.length yc] 34)) HRx.out Hs.out).mono ?_
          rw [Hb2.out]
          rintro e w9 ⟨rfl, r9, u9⟩
          have R9 := Lib.hid r9
          have U9 := Lib.hid ((HU.out.trans Ux.out (fun k _ h => h)).trans u9 (fun i hi (h : i = p) => by exfalso; have := Hp.out; omega) : Upd NoB w2 w9)
          have D9 := u9.heap Cx.out (fun e => hpx e.symm)
          have d0 := blk_cell D9 0
          have d1 := blk_cell D9 1
          have d2 := blk_cell D9 2
          have d3 := blk_cell D9 3
          clear r9 u9 D9 c0 c1 c2 c3
          go_wp2_with fail
          go_roundw
          case rel => exact ⟨k + 1, by omega, by go_num, by rw [Hnx.out]; exact R9.out, U9.out⟩
          case measure => simp [intOf]; omega
        · have HQ := Lib.hid hq
          have t0 : (((yk : Int) % 6) == 0) = false := beq_eq_false_iff_ne.2 (by omega)
          have t1 : (((yk : Int) % 6) == 1) = true := beq_iff_eq.2 (by omega)
          have hb := back1 HM.out hq
          rw [← Hn.out] at hb
          have Hb2 := Lib.hid hb
          clear hq hb
          go_wp2_with fail
          refine (rsigned_any p rv (pack l) n P.length yn (wr.alloc (.cells #[.int .u8 yk, .int .i64 yv, .int .i64 yn, .slice ya yz.length yc] 34)) HRx.out Hs.out).mono ?_
          rw [Hb2.out]
          rintro e w9 ⟨rfl, r9, u9⟩
          have R9 := Lib.hid r9
          have U9 := Lib.hid ((HU.out.trans Ux.out (fun k _ h => h)).trans u9 (fun i hi (h : i = p) => by exfalso; have := Hp.out; omega) : Upd NoB w2 w9)
          have D9 := u9.heap Cx.out (fun e => hpx e.symm)
          have d0 := blk_cell D9 0
          have d1 := blk_cell D9 1
          have d2 := blk_cell D9 2
          have d3 := blk_cell D9 3
          clear r9 u9 D9 c0 c1 c2 c3
          go_wp2_with fail
          go_roundw
          case rel => exact ⟨k + 1, by omega, by go_num, by rw [Hnx.out]; exact R9.out, U9.out⟩
          case measure => simp [intOf]; omega
        · have HQ := Lib.hid hq
          have t0 : (((yk : Int) % 6) == 0) = false := beq_eq_false_iff_ne.2 (by omega)
          have t1 : (((yk : Int) % 6) == 1) = false := beq_eq_false_iff_ne.2 (by omega)
          have t2 : (((yk : Int) % 6) == 2) = true := beq_iff_eq.2 (by omega)
          have hb := back2 HM.out hq
          rw [← Hn.out] at hb
          have Hb2 := Lib.hid hb
          clear hq hb
          go_wp2_with fail
          refine (runary_any p rv (pack l) n P.length 1000 (wr.alloc (.cells #[.int .u8 yk, .int .i64 yv, .int .i64 yn, .slice ya yz.length yc] 34)) HRx.out Hs.out).mono ?_
          rw [Hb2.out]
          rintro e w9 ⟨rfl, r9, u9⟩
          have R9 := Lib.hid r9
          have U9 := Lib.hid ((HU.out.trans Ux.out (fun k _ h => h)).trans u9 (fun i hi (h : i = p) => by exfalso; have := Hp.out; omega) : Upd NoB w2 w9)
          have D9 := u9.heap Cx.out (fun e => hpx e.symm)
          have d0 := blk_cell D9 0
          have d1 := blk_cell D9 1
          have d2 := blk_cell D9 2
          have d3 := blk_cell D9 3
          clear r9 u9 D9 c0 c1 c2 c3
          go_wp2_with fail
          go_roundw
          case rel => exact ⟨k + 1, by omega, by go_num, by rw [Hnx.out]; exact R9.out, U9.out⟩
          case measure => simp [intOf]; omega
        · have HQ := Lib.hid hq
          have t0 : (((yk : Int) % 6) == 0) = false := beq_eq_false_iff_ne.2 (by omega)
          have t1 : (((yk : Int) % 6) == 1) = false := beq_eq_false_iff_ne.2 (by omega)
          have t2 : (((yk : Int) % 6) == 2) = false := beq_eq_false_iff_ne.2 (by omega)
          have t3 : (((yk : Int) % 6) == 3) = true := beq_iff_eq.2 (by omega)
          have hb := back3 HM.out hq
          rw [← Hn.out] at hb
          have Hb2 := Lib.hid hb
          clear hq hb
          go_wp2_with fail
          refine (rgamma_any p rv (pack l) n P.length (wr.alloc (.cells #[.int .u8 yk, .int .i64 yv, .int .i64 yn, .slice ya yz.length yc] 34)) HRx.out Hs.out).mono ?_
          rw [Hb2.out]
          rintro e w9 ⟨rfl, r9, u9⟩
          have R9 := Lib.hid r9
          have U9 := Lib.hid ((HU.out.trans Ux.out (fun k _ h => h)).trans u9 (fun i hi (h : i = p) => by exfalso; have := Hp.out; omega) : Upd NoB w2 w9)
          have D9 := u9.heap Cx.out (fun e => hpx e.symm)
          have d0 := blk_cell D9 0
          have d1 := blk_cell D9 1
          have d2 := blk_cell D9 2
          have d3 := blk_cell D9 3
          clear r9 u9 D9 c0 c1 c2 c3
          go_wp2_with fail
          go_roundw
          case rel => exact ⟨k + 1, by omega, by go_num, by rw [Hnx.out]; exact R9.out, U9.out⟩
          case measure => simp [intOf]; omega
        · have HQ := Lib.hid hq
          have t0 : (((yk : Int) % 6) == 0) = false := beq_eq_false_iff_ne.2 (by omega)
          have t1 : (((yk : Int) % 6) == 1) = false := beq_eq_false_iff_ne.2 (by omega)
          have t2 : (((yk : Int) % 6) == 2) = false := beq_eq_false_iff_ne.2 (by omega)
          have t3 : (((yk : Int) % 6) == 3) = false := beq_eq_false_iff_ne.2 (by omega)
          have t4 : (((yk : Int) % 6) == 4) = true := beq_iff_eq.2 (by omega)
          obtain ⟨hb, hb8⟩ := back4 HM.out hq
          rw [← Hn.out] at hb
          have Hb2 := Lib.hid hb; have Hb8 := Lib.hid hb8
          clear hq hb hb8
          go_wp2_with fail
          refine (ralign_any p rv (pack l) n P.length (wr.alloc (.cells #[.int .u8 yk, .int .i64 yv, .int .i64 yn, .slice ya yz.length yc] 34)) HRx.out Hs.out).mono ?_
          rintro e w9 ⟨rfl, r9, u9⟩
          rw [Hb2.out] at r9
          have R9 := Lib.hid r9
          have U9 := Lib.hid ((HU.out.trans Ux.out (fun k _ h => h)).trans u9 (fun i hi (h : i = p) => by exfalso; have := Hp.out; omega) : Upd NoB w2 w9)
          have D9 := u9.heap Cx.out (fun e => hpx e.symm)
          have d0 := blk_cell D9 0
          have d1 := blk_cell D9 1
          have d2 := blk_cell D9 2
          have d3 := blk_cell D9 3
          clear r9 u9 D9 c0 c1 c2 c3
          go_wp2_with fail
          refine (at_any p _ w9 R9.out.c2).mono ?_
          rintro e w9' ⟨rfl, rfl⟩
          obtain ⟨q9, hq9⟩ : ∃ q9, q9 = (P ++ OpD.bits ⟨yk, yv, yn, .slice ya yz.length yc, yz⟩ P).length := ⟨_, rfl⟩
          rw [← hq9]
          have t8 : ((q9 : Int) % 8 == 0) = true := beq_iff_eq.2 (by have := Hb8.out; omega)
          clear hq9
          go_wp2_with fail
          go_roundw
          case rel => exact ⟨k + 1, by omega, by go_num, by rw [Hnx.out]; exact R9.out, U9.out⟩
          case measure => simp [intOf]; omega
        · have HQ := Lib.hid hq
          have t0 : (((yk : Int) % 6) == 0) = false := beq_eq_false_iff_ne.2 (by omega)
          have t1 : (((yk : Int) % 6) == 1) = false := beq_eq_false_iff_ne.2 (by omega)
          have t2 : (((yk : Int) % 6) == 2) = false := beq_eq_false_iff_ne.2 (by omega)
          have t3 : (((yk : Int) % 6) == 3) = false := beq_eq_false_iff_ne.2 (by omega)
          have t4 : (((yk : Int) % 6) == 4) = false := beq_eq_false_iff_ne.2 (by omega)
          obtain ⟨hb, hn0, hn8⟩ := back5 HM.out hq
          rw [← Hn.out] at hb
          have hn0 : 0 ≤ yn := hn0
          have hn8 : yn ≤ 8 * (yz.length : Int) := hn8
          obtain ⟨m, rfl⟩ : ∃ m : Nat, yn = m := ⟨yn.toNat, by omega⟩
          have Hb2 := Lib.hid hb; have Hn8 := Lib.hid hn8
          clear hq hb hn0 hn8
          go_wp2_with fail
          refine (take_any p rv (pack l) n P.length m _ HRx.out Hs.out).mono ?_
          rw [Hb2.out]
          rintro e w9 ⟨bv, rfl, row9, new9, r9, u9⟩
          simp only [Int.toNat_natCast] at row9
          have R9 := Lib.hid r9
          have U9 := Lib.hid ((HU.out.trans Ux.out (fun k _ h => h)).trans u9 (fun i hi (h : i = p) => by exfalso; have := Hp.out; omega) : Upd NoB w2 w9)
          have D9 := u9.heap Cx.out (fun e => hpx e.symm)
          have S9 := Lib.hid row9.bytes
          have d0 := blk_cell D9 0
          have d1 := blk_cell D9 1
          have d2 := blk_cell D9 2
          have d3 := blk_cell D9 3
          clear r9 u9 D9 c0 c1 c2 c3 row9 new9
          go_wp2_with fail
          refine (of_any (.slice ya yz.length yc) yz m w9 ((Hat2.out.upd U9.out).2.1) (by have := Hn8.out; omega) (by have := Hz4.out; have : yz.length ≤ 140000 := this; omega)).mono ?_
          rintro e w10 ⟨ov, rfl, r10, u10, n10⟩
          have S10 := Lib.hid r10.bytes
          have S9b := Lib.hid (bytes_later S9.out u10)
          have R10 := Lib.hid (R9.out.upd u10 (fun k _ => noB k))
          have U10 := Lib.hid (U9.out.trans u10 (fun k _ h => h))
          clear r10 u10 n10 R9 U9 S9 d0 d1 d2 d3
          go_wp2_with fail
          refine (pack_any ov (bitsOf yz 0 m) w10 S10.out (bitsOf_01 _ _ _) (by rw [bitsOf_length]; have := Hn8.out; have := Hz4.out; have : yz.length ≤ 140000 := this; omega)).mono ?_
          rintro e w11 ⟨pv, rfl, r11, u11, n11⟩
          have S11 := Lib.hid r11.bytes
          have S9c := Lib.hid (bytes_later S9b.out u11)
          have R11 := Lib.hid (R10.out.upd u11 (fun k _ => noB k))
          have U11 := Lib.hid (U10.out.trans u11 (fun k _ h => h))
          clear r11 u11 n11 R10 U10 S9b S10
          go_wp2_with fail
          refine (same_any bv pv _ _ w11 S9c.out S11.out (by rw [pack_length, bitsOf_length]; have := Hn8.out; have := Hz4.out; have : yz.length ≤ 140000 := this; omega)).mono ?_
          rintro e w12 ⟨rfl, n12, rfl⟩
          rw [sameB_self]
          have R9 := Lib.hid (R11.out.upd (upd_drewN (Upd.refl NoB w11) n12) (fun k _ => noB k))
          have U9 := Lib.hid (upd_drewN U11.out n12)
          clear R11 U11 S9c S11
          generalize w11.drewN n12 = w12 at *
          go_wp2_with fail
          go_roundw
          case rel => exact ⟨k + 1, by omega, by go_num, by rw [Hnx.out]; exact R9.out, U9.out⟩
          case measure => simp [intOf]; omega
    · obtain rfl : k = D := by omega
      have hend : (catW [] (ds.take k)).length = n := by rw [HD.out, List.take_length, ← Hcat.out, Hn.out]
      have HR2 := Lib.hid (show RAt wr p rv (pack l) n n from by have := HR.out; rwa [hend] at this)
      have A9 := Lib.hid (A2.out.upd HU.out (fun k _ => noB k))
      clear HR hend
      go_wp2_with fail
      refine (left_any p n n wr HR2.out.c1 HR2.out.c2 HR2.out.2.2.2.2.1 (Nat.le_refl _)).mono ?_
      rintro e w9 ⟨rfl, rfl⟩
      have A10 := Lib.hid (show WAt wr.drew b l v from A9.out)
      have U10 := Lib.hid (HU.out.drew)
      clear A9 HU
      generalize wr.drew = w10 at *
      have hz0 : (n : Int) - (n : Int) = 0 := by omega
      rw [hz0]
      go_wp2_with fail
      refine (wbytes_any b l v w10 A10.out (by have := Hlen.out; omega)).mono ?_
      rintro e w11 ⟨s5, rfl, r5, u5, n5⟩
      obtain ⟨za, zc, rfl⟩ := row8_slice r5
      have A11 := Lib.hid (A10.out.upd u5 (fun k _ => noB k))
      have U11 := Lib.hid (U10.out.trans u5 (fun k _ h => h))
      have hpl : (pack l).length = (n + 7) / 8 := by rw [pack_length, Hn.out]
      rw [hpl]
      clear r5 u5 n5 A10 U10 hpl
      obtain ⟨q, hq⟩ : ∃ q, q = (n + 7) / 8 := ⟨_, rfl⟩
      have hqq : ((n : Int) + 7) / 8 = (q : Int) := by omega
      rw [← hq]
      have teq : ((q : Int) == ((n : Int) + 7) / 8) = true := beq_iff_eq.2 hqq.symm
      have hn7 : n ≤ 1048576 := by have := Hn.out; have := Hlen.out; omega
      clear hq hqq
      go_wp2_with fail
      refine (wlen_some b _ w11 A11.out.len).mono ?_
      rintro e w11' ⟨rfl, rfl⟩
      rw [← Hn.out]
      go_wp2_with fail
      refine (awake_any w11).mono ?_
      rintro e w12 ⟨rfl, u12⟩
      have U12 := Lib.hid ((U2.out.trans U11.out (fun k _ h => h)).trans u12 (fun k _ h => h)); clear u12
      go_wp2_with fail
      go_ret
      exact ⟨rfl, U12.out⟩
end Go.Proofs.Ytdjaileeklhkmaa
