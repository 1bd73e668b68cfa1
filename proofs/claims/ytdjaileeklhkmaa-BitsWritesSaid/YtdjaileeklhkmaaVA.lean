/- the reference's writer: Align, Len, Bytes -/
import Derived.Test.YtdjaileeklhkmaaVG
namespace Go.Proofs.Ytdjaileeklhkmaa
open Go.RowKit Go.Shelf

theorem VPost.next {b : Nat} {v0 v1 : Value} {w w1 w2 : World} {l : List Nat} (u : Upd (wfoot b v0) w w1) (n1 : newOr w v0 v1) (h : VPost b v1 w1 l w2) : VPost b v0 w l w2 := by
  obtain ⟨v2, h1, h2, h3⟩ := h
  refine ⟨v2, h1, u.trans h2 ?_, n1.trans h3 u.size⟩
  rintro i hi (rfl | hi')
  · exact .inl rfl
  · rcases n1 i hi' with h | h
    · exact .inr h
    · omega
theorem numBits_same {x : Int} (h0 : 0 ≤ x) (h1 : x ≤ 1) (n : Nat) : numBits (-x) n = List.replicate n x.toNat := by
  refine List.ext_getElem (by simp [numBits_length]) fun i h1' h2' => ?_
  simp only [numBits_map, List.getElem_map, List.getElem_range, List.getElem_replicate, numF]
  rcases (show x = 0 ∨ x = 1 by omega) with rfl | rfl
  · simp
  · have : (-1 : Int) / 2 ^ (n - 1 - i) = -1 := ediv_neg_one (by decide) (by have := Int.pow_pos (n := 2) (m := n - 1 - i) (by decide); omega)
    rw [this]; rfl
theorem vlen_any (b : Nat) (l : List Nat) (v : Value) (w : World) (h : VAt w b l v) :
    Calls Try.prog 17 #[.pointer (some ⟨b, 0, none⟩)] w fun e w' => e = .returned (.int .i64 (l.length : Nat)) ∧ w = w' := by
  obtain ⟨a, c, rfl⟩ := row8_slice h.2.1
  have c0 : w.cell? ⟨b, 0, none⟩ = some (.slice a l.length c) := blk_cell h.1 0
  clear h
  go_enter Try.func17, Try.ntmps17
  go_wp2
  go_ret
  exact ⟨rfl, rfl⟩
theorem vbytes_any (b : Nat) (l : List Nat) (v : Value) (w : World) (h : VAt w b l v) (hl : l.length ≤ 1048576) :
    Calls Try.prog 20 #[.pointer (some ⟨b, 0, none⟩)] w fun e w' => ∃ v', e = .returned v' ∧ Row8 w' v' (pack l) ∧ Upd NoB w w' ∧ newB w v' := by
  obtain ⟨a, c, rfl⟩ := row8_slice h.2.1
  have c0 : w.cell? ⟨b, 0, none⟩ = some (.slice a l.length c) := blk_cell h.1 0
  have H := Lib.hid h; clear h
  go_enter Try.func20, Try.ntmps20
  go_wp2_with fail
  refine (pack_any _ l w H.out.2.1.bytes H.out.2.2 (by omega)).mono ?_
  rintro e w2 ⟨v2, rfl, r2, u2, n2⟩
  have R2 := Lib.hid r2; have U2 := Lib.hid u2; have N2 := Lib.hid n2
  clear r2 u2 n2
  go_wp2_with fail
  go_ret
  exact ⟨_, rfl, R2.out, U2.out, N2.out⟩
def lenAt (b : Nat) (w : World) : Nat := match w.cell? ⟨b, 0, none⟩ with | some (.slice _ n _) => n | _ => 0
theorem lenAt_eq {w : World} {b : Nat} {l : List Nat} {v : Value} (h : VAt w b l v) : lenAt b w = l.length := by
  obtain ⟨a, c, rfl⟩ := row8_slice h.2.1
  have c0 : w.cell? ⟨b, 0, none⟩ = some (.slice a l.length c) := blk_cell h.1 0
  unfold lenAt; rw [c0]
set_option maxRecDepth 100000 in
set_option maxHeartbeats 2000000 in
theorem vAlign_any (b : Nat) (l : List Nat) (v : Value) (x : Int) (w : World) (h : VAt w b l v) (hl : l.length ≤ 1048576) :
    Calls Try.prog 55 #[.pointer (some ⟨b, 0, none⟩), .int .i64 x] w fun e w' => VRes b v w l (alignBad x) (numBits (-x) ((8 - l.length % 8) % 8)) e w' := by
  obtain ⟨i0, hi, hz0, hz1, hz2⟩ := info_parts Try.info5
  have H := Lib.hid h; clear h
  by_cases h1 : x < 0
  · have hb : alignBad x := fun hh => by omega
    have Hb := Lib.hid hb; clear hb
    go_enter Try.func55, Try.ntmps55
    go_wp2
    go_ret
    exact VRes.bad Hb.out
  by_cases h2 : 1 < x
  · have hb : alignBad x := fun hh => by omega
    have Hb := Lib.hid hb; clear hb
    go_enter Try.func55, Try.ntmps55
    go_wp2
    go_ret
    exact VRes.bad Hb.out
  obtain ⟨y, rfl⟩ := Int.eq_ofNat_of_zero_le (show 0 ≤ x by omega)
  have hb : ¬ alignBad (y : Int) := fun hh => hh ⟨by omega, by omega⟩
  have hy : y ≤ 1 := by omega
  obtain ⟨A, hA⟩ : ∃ A, A = (8 - l.length % 8) % 8 := ⟨_, rfl⟩
  rw [← hA, numBits_same (by omega) (by omega), Int.toNat_natCast]
  have Hb := Lib.hid hb; have HA := Lib.hid hA
  clear hb h1 hA
  go_enter Try.func55, Try.ntmps55
  go_wp2_with fail
  go_loopw [] (fun wr => ∃ k : Nat, k ≤ A ∧ VPost b v w (l ++ List.replicate k y) wr) (fun wr => (8 - lenAt b wr % 8) % 8)
  case atStart => exact ⟨0, Nat.zero_le _, v, by simpa using H.out, Upd.refl _ _, newOr.refl _ _⟩
  case round =>
    obtain ⟨k, hk, v1, hv, hu, hn⟩ := hrel
    obtain ⟨va, vc, rfl⟩ := row8_slice hv.2.1
    have hlen : (l ++ List.replicate k y).length = l.length + k := by simp
    have hm0 := lenAt_eq hv
    obtain ⟨L, hL⟩ : ∃ L, L = (l ++ List.replicate k y).length := ⟨_, rfl⟩
    have c0 : wr.cell? ⟨b, 0, none⟩ = some (.slice va (l ++ List.replicate k y).length vc) := blk_cell hv.1 0
    have f0 := blk_free hv.1 0
    have hrow := hv.2.1.1
    rw [← hL] at c0 hv hrow hn hm0 hlen
    have Hv := Lib.hid hv; have Hu := Lib.hid hu; have Hn := Lib.hid hn; have HL := Lib.hid hL; have Hlen := Lib.hid hlen; have Hm0 := Lib.hid hm0
    have hlL : L ≤ 1048584 := by have := HA.out; omega
    clear hv hu hn hL hlen hm0
    have k0 : (L : Int).tmod 8 = (L : Int) % 8 := Int.tmod_eq_emod_of_nonneg (by omega)
    by_cases hlt : k < A
    · have t1 : decide (0 < (L : Int) % 8) = true := decide_eq_true (by have := HA.out; have := Hlen.out; omega)
      have hrow1 : (wr.alloc (.cells #[.int .u8 y] 5)).ownsRow 0 5 1 (.slice va L vc) L (u8s (l ++ List.replicate k y)) := ((Upd.refl NoB wr).alloc _).row hrow (fun k _ => noB k)
      have hnews : ∀ j u, (u8s [y])[j]? = some u → (wr.alloc (.cells #[.int .u8 y] 5)).cell? ((⟨wr.heap.size, 0, none⟩ : Addr).add j) = some u := World.news_of_block (heap_alloc_new wr (.cells #[.int .u8 y] 5))
      have hone := u8s_one [y]
      have hs1 : (wr.alloc (.cells #[.int .u8 y] 5)).heap.size = wr.heap.size + 1 := Array.size_push ..
      have Hs1 := Lib.hid hs1
      have hwy : ((y : Int) % 256) = y := by omega
      clear hs1 hrow
      go_wp2_with (at_builtin; refine wpList_append_own_at _ rfl _ _ 27 rfl 0 5 i0 (.int .u8 0) 1 1 Try.underlying27 hi hz0 hz1 hz2 rfl (by decide) _ L _ rfl hrow1 ⟨wr.heap.size, 0, none⟩ 1 1 (u8s [y]) rfl rfl hnews hone ?c3 ?c4 (Nat.zero_le _) ?_)
      case c3 => unfold maxLen; omega
      case c4 => omega
      intro v' w1 hown hgr _ hnw
      obtain ⟨va', vc', rfl⟩ := row_form hown
      have hv1 : VAt (wr.alloc (.cells #[.int .u8 y] 5)) b (l ++ List.replicate k y) (.slice va L vc) := Hv.out.later ((Upd.refl NoB wr).alloc _)
      have hnew : newOr (wr.alloc (.cells #[.int .u8 y] 5)) (.slice va L vc) (.slice va' (L + 1) vc') := fun k hk => by
        rcases hnw with h | h
        · exact .inl (by rw [← h, hk])
        · rw [h] at hk; injection hk with hk; exact .inr (by have := Hs1.out; omega)
      have hb1 : w1.heap[b]? = some (.cells #[.slice va L vc] 32 (0, 0)) :=
        ((Upd.refl (fun k => (Value.slice va L vc).ownBlock = some k) _).grown hgr (fun k hk _ => hk)).heap hv1.1 (fun e => hv1.sep e)
      have f1 := blk_free hb1 0
      have d0 := blk_cell hb1 0
      have hp := hv1.app (bs := [y]) (fun z hz => by simp at hz; omega) (by rw [← HL.out]; exact hown) hgr hnew
      have hp2 : VPost b v w (l ++ List.replicate (k + 1) y) (w1.setCell ⟨b, 0, none⟩ (.slice va' (L + 1) vc')) := by
        rw [List.replicate_succ', ← List.append_assoc]
        exact VPost.next (Hu.out.alloc _) (fun j hj => Hn.out j hj) hp
      have Hp2 := Lib.hid hp2
      clear hp hp2 hgr hnew hown hb1 hv1 hnw hrow1 hnews hone c0 f0
      go_wp2
      go_roundw
      case rel => exact ⟨k + 1, by omega, Hp2.out⟩
      case measure =>
        obtain ⟨v3, hv3, _⟩ := Hp2.out
        have e3 := lenAt_eq hv3
        have e0 := Hm0.out
        have e1 := Hlen.out
        have e2 := HA.out
        simp only [List.length_append, List.length_replicate] at e3
        rw [e0, e3]; omega
    · obtain rfl : k = A := by omega
      have t1 : decide (0 < (L : Int) % 8) = false := decide_eq_false (by have := HA.out; have := Hlen.out; omega)
      go_wp2
      go_ret
      exact ⟨0, rfl, .inr (.inr ⟨Hb.out, by have := HA.out; simp; omega, rfl, _, Hv.out, Hu.out, Hn.out⟩)⟩
end Go.Proofs.Ytdjaileeklhkmaa
