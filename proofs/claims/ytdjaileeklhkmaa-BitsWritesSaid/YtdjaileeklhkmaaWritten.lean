/- calls of a new writer, one after the other -/
import Derived.Test.YtdjaileeklhkmaaFew
namespace Go.Proofs.Ytdjaileeklhkmaa
open Go.RowKit Go.Shelf

def okW (l : List Nat) (x : OpD) : Prop := ¬ x.bad ∧ l.length + (x.bits l).length ≤ 1048576
open Classical in
noncomputable def nextW (l : List Nat) (x : OpD) : List Nat := if okW l x then l ++ x.bits l else l
open Classical in
noncomputable def bitsAll (l : List Nat) : List OpD → List Nat
  | [] => l
  | x :: xs => bitsAll (nextW l x) xs
open Classical in
noncomputable def doneOf (l : List Nat) : List OpD → List OpD
  | [] => []
  | x :: xs => (if okW l x then [x] else []) ++ doneOf (nextW l x) xs
theorem bitsAll_append : ∀ (xs ys : List OpD) (l : List Nat), bitsAll l (xs ++ ys) = bitsAll (bitsAll l xs) ys
  | [], _, _ => rfl
  | x :: xs, ys, l => bitsAll_append xs ys (nextW l x)
theorem doneOf_append : ∀ (xs ys : List OpD) (l : List Nat), doneOf l (xs ++ ys) = doneOf l xs ++ doneOf (bitsAll l xs) ys
  | [], _, _ => rfl
  | x :: xs, ys, l => by
    show (_ ++ doneOf (nextW l x) (xs ++ ys)) = _ ++ doneOf (nextW l x) xs ++ doneOf (bitsAll (nextW l x) xs) ys
    rw [doneOf_append xs ys, List.append_assoc]
theorem take_snoc {xs : List OpD} {k : Nat} {x : OpD} (h : xs[k]? = some x) : xs.take (k + 1) = xs.take k ++ [x] := by rw [List.take_add_one, h]; rfl
theorem bitsAll_snoc {xs : List OpD} {k : Nat} {x : OpD} (h : xs[k]? = some x) (l : List Nat) : bitsAll l (xs.take (k + 1)) = nextW (bitsAll l (xs.take k)) x := by rw [take_snoc h, bitsAll_append]; rfl
theorem doneOf_ok {xs : List OpD} {k : Nat} {x : OpD} (h : xs[k]? = some x) (l : List Nat) (ho : okW (bitsAll l (xs.take k)) x) : doneOf l (xs.take (k + 1)) = doneOf l (xs.take k) ++ [x] := by
  rw [take_snoc h, doneOf_append]; simp [doneOf, if_pos ho]
theorem doneOf_bad {xs : List OpD} {k : Nat} {x : OpD} (h : xs[k]? = some x) (l : List Nat) (ho : ¬ okW (bitsAll l (xs.take k)) x) : doneOf l (xs.take (k + 1)) = doneOf l (xs.take k) := by
  rw [take_snoc h, doneOf_append]; simp [doneOf, if_neg ho]
theorem nextW_ok {l : List Nat} {x : OpD} (h : okW l x) : nextW l x = l ++ x.bits l := if_pos h
theorem nextW_bad {l : List Nat} {x : OpD} (h : ¬ okW l x) : nextW l x = l := if_neg h
theorem doneOf_le : ∀ (xs : List OpD) (k : Nat) (l : List Nat), (doneOf l (xs.take k)).length ≤ k
  | _, 0, _ => by simp [doneOf]
  | [], _ + 1, _ => by simp [doneOf]
  | x :: xs, k + 1, l => by
    have := doneOf_le xs k (nextW l x)
    simp only [List.take_succ_cons, doneOf, List.length_append]
    split <;> simp <;> omega
def opCells (xs : List OpD) : List Value := xs.flatMap fun x => [.int .u8 x.k, .int .i64 x.v, .int .i64 x.n, x.sv]
theorem opCells_snoc (xs : List OpD) (x : OpD) : opCells (xs ++ [x]) = opCells xs ++ [.int .u8 x.k, .int .i64 x.v, .int .i64 x.n, x.sv] := by simp [opCells]
theorem Try.info34 : (Try.prog.info? 34).map (fun i => (i.zero, i.size, i.bytes)) = some (some (.agg #[.int .u8 0, .int .i64 0, .int .i64 0, .slice none 0 0]), 4, 48) := by kernel_rfl

/-- What stands in the world behind the first calls. -/
structure WSt (w wr : World) (b : Nat) (l : List Nat) (ds : List OpD) (dv : Value) : Prop where
  wat : ∃ v, WAt wr b l v ∧ newB w v ∧ (∀ j, dv.ownBlock = some j → ¬ wfoot b v j)
  len : l.length ≤ 1048576
  row : wr.ownsRow 0 34 4 dv ds.length (opCells ds)
  new : newB w dv
  upd : Upd NoB w wr

theorem ops_get {w : World} {sv : Value} {xs : List OpD} (h : Ops w sv xs) {k : Nat} {x : OpD} (hx : xs[k]? = some x) : x.at w := by
  obtain ⟨a, cap, rfl, h1, h2, h3⟩ := h
  rcases h3 with h3 | ⟨b, off, rfl, h3⟩
  · subst h3; simp at hx
  · exact (h3 k x hx).2.2.2.2
theorem at_sep {x : OpD} {w : World} {v : Value} {b : Nat} (h : x.at w) (hb : w.heap.size ≤ b) (hv : newB w v) : x.zs ≠ [] → ∀ j, x.sv.ownBlock = some j → ¬ wfoot b v j := fun hz j hj hf => by
  obtain ⟨c, t, fr, hc⟩ := h.2.1.lt hz j hj
  have := lt_of_block hc
  rcases hf with hf | hf
  · omega
  · have := hv j hf; omega
theorem WSt.later {w wr w2 : World} {b : Nat} {l : List Nat} {ds : List OpD} {dv : Value} (h : WSt w wr b l ds dv) (u : Upd NoB wr w2) : WSt w w2 b l ds dv := by
  obtain ⟨⟨v, wa, nv, sep⟩, h2, h3, h4, h5⟩ := h
  exact ⟨⟨v, wa.upd u (fun k _ => noB k), nv, sep⟩, h2, u.row h3 (fun k _ => noB k), h4, h5.trans u (fun k _ h => h)⟩
theorem WSt.done {w wr w1 w2 w4 : World} {b : Nat} {l bs : List Nat} {ds : List OpD} {dv dv' v : Value} {x : OpD} {o : Obj} (h : WSt w wr b l ds dv) (hb : w.heap.size ≤ b) (nv : newB w v) (sep : ∀ j, dv.ownBlock = some j → ¬ wfoot b v j)
    (u1 : Upd NoB wr w1) (p : WPost b v w1 (l ++ bs) w2) (hl : (l ++ bs).length ≤ 1048576)
    (row : w4.ownsRow 0 34 4 dv' (ds.length + 1) (opCells ds ++ [.int .u8 x.k, .int .i64 x.v, .int .i64 x.n, x.sv])) (hg : (w2.alloc o).grownBy w4 dv.ownBlock) (hn : newOr (w2.alloc o) dv dv') :
    WSt w w4 b (l ++ bs) (ds ++ [x]) dv' := by
  obtain ⟨_, h2, h3, h4, h5⟩ := h
  obtain ⟨v', wa, u2, n2⟩ := p
  have s5 := h5.size; have s1 := u1.size; have s2 := u2.size
  have hsz : (w2.alloc o).heap.size = w2.heap.size + 1 := Array.size_push ..
  have hdl : ∀ j, dv.ownBlock = some j → j < w1.heap.size := fun j hj => by have := (h3.lt j hj).2; omega
  have hnv : newB w v' := fun k hk => by
    rcases n2 k hk with h | h
    · exact nv k h
    · omega
  have hsep' : ∀ j, dv.ownBlock = some j → ¬ wfoot b v' j := fun j hj hf => by
    rcases hf with hf | hf
    · exact sep j hj (.inl hf)
    · rcases n2 j hf with h | h
      · exact sep j hj (.inr h)
      · have := hdl j hj; omega
  have u4 : Upd (fun k => dv.ownBlock = some k) w2 w4 := ((Upd.refl _ w2).alloc o).grown hg (fun k hk _ => hk)
  have hblk : b < w2.heap.size := lt_of_block wa.1
  have hv'l : ∀ j, v'.ownBlock = some j → j < w2.heap.size := fun j hj => (wa.2.1.lt j hj).2
  refine ⟨⟨v', wa.upd u4 (fun k hk hd => hsep' k hd hk), hnv, fun j hj hf => ?_⟩, hl, ?_, fun k hk => ?_, ?_⟩
  · rcases hn j hj with h | h
    · exact hsep' j h hf
    · rcases hf with hf | hf
      · omega
      · have := hv'l j hf; omega
  · rw [opCells_snoc]; simpa using row
  · rcases hn k hk with h | h
    · exact h4 k h
    · omega
  · refine ((h5.trans u1 (fun k _ h => h)).trans u2 (fun i hi h => ?_)).trans u4 (fun i hi h => ?_)
    · rcases h with h | h
      · omega
      · have := nv i h; omega
    · have := h4 i h; omega

set_option maxRecDepth 100000 in
set_option maxHeartbeats 4000000 in
theorem written_any (sv : Value) (xs : List OpD) (w : World) (h : Ops w sv xs) (hl : xs.length ≤ 60) :
    Calls Try.prog 34 #[sv] w fun e w' => ∃ b dv, e = .returned (.tuple #[.pointer (some ⟨b, 0, none⟩), dv]) ∧ w.heap.size ≤ b ∧ WSt w w' b (bitsAll [] xs) (doneOf [] xs) dv := by
  obtain ⟨i0, hi, hz0, hz1, hz2⟩ := info_parts Try.info34
  obtain ⟨a, cap, rfl, h1, h2, _⟩ := id h
  unfold maxLen at h2
  have H := Lib.hid h; clear h
  obtain ⟨L, hL⟩ : ∃ L, L = xs.length := ⟨_, rfl⟩
  rw [← hL] at h1 hl ⊢
  have HL := Lib.hid hL; clear hL
  go_enter Try.func34, Try.ntmps34
  go_wp2_with fail
  refine (new_any w).mono ?_
  rintro e w1 ⟨rfl, rfl⟩
  have st : WSt w (w.alloc (.cells #[.slice none 0 0, .int .i64 0] 29)) w.heap.size [] [] (.slice none 0 0) :=
    ⟨⟨_, WAt_new w, newB_nil _, fun j hj => by simp [Value.ownBlock] at hj⟩, by simp, World.ownsRow_nil _ _ _ _, newB_nil _, (Upd.refl _ _).alloc _⟩
  generalize w.alloc (.cells #[.slice none 0 0, .int .i64 0] 29) = w1 at *
  obtain ⟨b, hb⟩ : ∃ b, b = w.heap.size := ⟨_, rfl⟩
  have hbw : w.heap.size ≤ b := by omega
  rw [← hb] at st ⊢
  have Hb := Lib.hid hbw; clear hbw hb
  go_wp2_with fail
  go_loopw [5, 11] (fun s i wr => ∃ (k : Nat), k ≤ L ∧ i = .int .i64 k ∧ WSt w wr b (bitsAll [] (xs.take k)) (doneOf [] (xs.take k)) s) (fun _ i _ => L - (intOf i).toNat)
  case atStart => exact ⟨0, Nat.zero_le _, rfl, st⟩
  case round =>
    obtain ⟨k, hk, rfl, hst⟩ := hrel
    have HS := Lib.hid hst; clear hst
    by_cases hlt : k < L
    · obtain ⟨x, hx⟩ : ∃ x, xs[k]? = some x := ⟨_, List.getElem?_eq_getElem (by rw [← HL.out]; exact hlt)⟩
      obtain ⟨a', cap', e, _, _, h3⟩ := H.out.upd HS.out.upd
      cases e
      rcases h3 with h3 | ⟨g, off, rfl, h3⟩
      · subst h3; simp at hx
      · obtain ⟨c0, c1, c2, c3, hat⟩ := h3 k x hx
        clear h3
        have hat0 := ops_get H.out hx
        obtain ⟨v, wa, nv, sep⟩ := HS.out.wat
        have hsp := at_sep hat0 Hb.out nv
        have hlen := HS.out.len
        have eb := bitsAll_snoc hx []
        have ed := doneOf_ok hx []
        have en := doneOf_bad hx []
        obtain ⟨lk, hlk⟩ : ∃ lk, lk = bitsAll [] (xs.take k) := ⟨_, rfl⟩
        obtain ⟨dk, hdk⟩ : ∃ dk, dk = doneOf [] (xs.take k) := ⟨_, rfl⟩
        rw [← hlk] at wa hlen eb ed en HS
        rw [← hdk] at ed en HS
        have hdl : dk.length ≤ k := by rw [hdk]; exact doneOf_le _ _ _
        have Hdl := Lib.hid hdl
        have Wa := Lib.hid wa; have Nv := Lib.hid nv; have Sep := Lib.hid sep; have Hsp := Lib.hid hsp; have Hlen := Lib.hid hlen
        have Eb := Lib.hid eb; have Ed := Lib.hid ed; have En := Lib.hid en; have Hat := Lib.hid hat
        have hrow := HS.out.row
        have Hx := Lib.hid hx
        clear wa nv sep hsp hlen eb ed en hat hlk hdk hdl hx hat0
        obtain ⟨xk, xv, xn, xsv, xz⟩ := x
        obtain ⟨sa, sc, hsv⟩ : ∃ sa sc, xsv = .slice sa xz.length sc := by obtain ⟨_, sa, sc, hsv, _⟩ := Hat.out.2.1; exact ⟨sa, sc, hsv⟩
        subst hsv
        have ux : Upd NoB wr (wr.alloc (.cells #[.int .u8 xk, .int .i64 xv, .int .i64 xn, .slice sa xz.length sc] 34)) := (Upd.refl _ _).alloc _
        have cx := heap_alloc_new wr (.cells #[.int .u8 xk, .int .i64 xv, .int .i64 xn, .slice sa xz.length sc] 34)
        have Cx := Lib.hid cx; have Ux := Lib.hid ux; clear cx ux
        have hw := lwrite_any ⟨xk, xv, xn, .slice sa xz.length sc, xz⟩ b lk v (wr.alloc (.cells #[.int .u8 xk, .int .i64 xv, .int .i64 xn, .slice sa xz.length sc] 34)) (Wa.out.upd Ux.out (fun k _ => noB k)) Hlen.out (Hat.out.upd Ux.out) Hsp.out
        simp only [OpD.val] at hw
        have Hw := Lib.hid hw; clear hw
        go_wp2_with fail
        refine (Hw.out).mono ?_
        rintro e w2 ⟨r, rfl, ⟨hbad, rfl, u2⟩ | ⟨hbad, hov, rfl, u2⟩ | ⟨hbad, hfit, rfl, p2⟩⟩
        · have hno : ¬ okW lk ⟨xk, xv, xn, .slice sa xz.length sc, xz⟩ := fun h => h.1 hbad
          have Hno := Lib.hid hno
          have st2 := Lib.hid (HS.out.later (Ux.out.trans u2 (fun k _ h => h)))
          clear hbad u2 hno Hw
          go_wp2_with fail
          go_roundw
          case rel => exact ⟨k + 1, by omega, by go_num, by rw [Eb.out, En.out Hno.out, nextW_bad Hno.out]; exact st2.out⟩
          case measure => simp [intOf]; omega
        · have hno : ¬ okW lk ⟨xk, xv, xn, .slice sa xz.length sc, xz⟩ := fun h => by have := h.2; omega
          have Hno := Lib.hid hno
          have st2 := Lib.hid (HS.out.later (Ux.out.trans u2 (fun k _ h => h)))
          clear hbad u2 hno Hw hov
          go_wp2_with fail
          go_roundw
          case rel => exact ⟨k + 1, by omega, by go_num, by rw [Eb.out, En.out Hno.out, nextW_bad Hno.out]; exact st2.out⟩
          case measure => simp [intOf]; omega
        · have hok : okW lk ⟨xk, xv, xn, .slice sa xz.length sc, xz⟩ := ⟨hbad, hfit⟩
          have Hok := Lib.hid hok
          obtain ⟨v2, wa2, u2, n2⟩ := id p2
          have hbox : ¬ wfoot b v wr.heap.size := fun hf => by
            rcases hf with hf | hf
            · have := lt_of_block Wa.out.1; omega
            · have := (Wa.out.2.1.lt _ hf).2; omega
          have Dx := u2.heap Cx.out hbox
          have d0 := blk_cell Dx 0
          have d1 := blk_cell Dx 1
          have d2 := blk_cell Dx 2
          have d3 := blk_cell Dx 3
          have row2 := u2.row (Ux.out.row hrow (fun k _ => noB k)) (fun j hj => Sep.out j hj)
          have Row2 := Lib.hid row2
          have P2 := Lib.hid p2
          clear Dx hbad hfit hok p2 wa2 u2 n2 Hw row2 hrow hbox
          go_wp2_with (at_builtin; refine wpList_append_mine rfl _ _ 22 rfl 34 i0 (.agg #[.int .u8 0, .int .i64 0, .int .i64 0, .slice none 0 0]) 4 48 Try.underlying22 hi hz0 hz1 hz2 rfl (by decide) _ _ _ rfl (Row2.out.alloc _) ⟨w2.heap.size, 0, none⟩ 1 1 [.int .u8 xk, .int .i64 xv, .int .i64 xn, .slice sa xz.length sc] rfl (by decide) rfl ?c1 ?c2 ?c3 ?c4 ?_)
          case c1 =>
            intro j u hj
            rw [addr_add, Nat.zero_add]
            have e := blk_cell (heap_alloc_new w2 (.cells #[.int .u8 xk, .int .i64 xv, .int .i64 xn, .slice sa xz.length sc] 34)) j
            rw [e]; simpa using hj
          case c2 => intro u hu; simp at hu; rcases hu with rfl | rfl | rfl | rfl <;> rfl
          case c3 => have := Hdl.out; unfold maxLen; omega
          case c4 => have := Hdl.out; omega
          intro dv' w4 hrow4 hgrow hnew
          have st4 := Lib.hid (HS.out.done Hb.out Nv.out Sep.out Ux.out P2.out (by rw [List.length_append]; exact Hok.out.2) (x := ⟨xk, xv, xn, .slice sa xz.length sc, xz⟩) hrow4 hgrow hnew)
          clear hrow4 hgrow hnew
          go_wp2_with fail
          go_roundw
          case rel => exact ⟨k + 1, by omega, by go_num, by rw [Eb.out, nextW_ok Hok.out, Ed.out Hok.out]; exact st4.out⟩
          case measure => simp [intOf]; omega
    · obtain rfl : k = L := by omega
      have st2 := Lib.hid (show WSt w wr b (bitsAll [] xs) (doneOf [] xs) u5 from by have := HS.out; rwa [HL.out, List.take_length] at this)
      go_wp2_with fail
      go_ret2
      exact ⟨b, u5, rfl, Hb.out, st2.out⟩
end Go.Proofs.Ytdjaileeklhkmaa
