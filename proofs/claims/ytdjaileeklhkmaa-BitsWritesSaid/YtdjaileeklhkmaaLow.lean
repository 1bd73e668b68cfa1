/- the bits of bytes from the lowest one on; the sum of 32 bits -/
import Derived.Test.YtdjaileeklhkmaaSum
namespace Go.Proofs.Ytdjaileeklhkmaa
open Go.RowKit Go.Shelf
attribute [local go_sem] Oper.semAt_some

def lowB (z i : Nat) : List Nat := (List.range i).map fun k => z / 2 ^ k % 2
def lowOf (zs : List Nat) : List Nat := (zs.map fun z => lowB z 8).flatten
theorem lowB_succ (z i : Nat) : lowB z (i + 1) = lowB z i ++ [z / 2 ^ i % 2] := by simp [lowB, List.range_succ]
theorem lowB_length (z i : Nat) : (lowB z i).length = i := by simp [lowB]
theorem lowOf_snoc (zs : List Nat) (z : Nat) : lowOf (zs ++ [z]) = lowOf zs ++ lowB z 8 := by simp [lowOf]
theorem lowOf_append (xs ys : List Nat) : lowOf (xs ++ ys) = lowOf xs ++ lowOf ys := by simp [lowOf]
theorem lowOf_length (zs : List Nat) : (lowOf zs).length = 8 * zs.length := by
  induction zs with
  | nil => rfl
  | cons z zs ih => simp only [lowOf, List.map_cons, List.flatten_cons, List.length_append, lowB_length, List.length_cons] at ih ⊢; omega
theorem lowOf_next {zs : List Nat} {j z : Nat} (h : zs[j]? = some z) : lowOf (zs.take (j + 1)) = lowOf (zs.take j) ++ lowB z 8 := by
  rw [List.take_add_one, h, Option.toList_some, lowOf_snoc]
theorem lowB_take (z : Nat) {i k : Nat} (h : i ≤ k) : lowB z i <+: lowB z k := by
  obtain ⟨d, rfl⟩ := Nat.exists_eq_add_of_le h
  induction d with
  | zero => exact List.prefix_refl _
  | succ d ih => rw [← Nat.add_assoc, lowB_succ]; exact (ih (by omega)).trans (List.prefix_append _ _)
theorem lowOf_part {zs : List Nat} {j z i : Nat} (h : zs[j]? = some z) (hi : i ≤ 8) : lowOf (zs.take j) ++ lowB z i <+: lowOf zs := by
  have h1 : lowOf (zs.take (j + 1)) <+: lowOf zs := by
    have := lowOf_append (zs.take (j + 1)) (zs.drop (j + 1))
    rw [List.take_append_drop] at this
    rw [this]; exact List.prefix_append _ _
  rw [lowOf_next h] at h1
  exact (List.prefix_append_right_inj _ |>.2 (lowB_take z hi)).trans h1

theorem lowest_in (a : Option Addr) (len cap : Nat) (w : World) :
    Calls Try.prog 69 #[.slice a len cap] w fun e w' => e = .returned (.func (.func 81) #[] #[.pointer (some ⟨w.heap.size, 0, none⟩)]) ∧ w' = w.alloc (.cells #[.slice a len cap] 27) := by
  go_enter Try.func69, Try.ntmps69
  go_wp2
  go_ret
  exact ⟨rfl, rfl⟩

set_option maxRecDepth 100000 in
set_option maxHeartbeats 1000000 in
theorem lowest1_in (l Bs : Nat) (sv : Value) (zs : List Nat) (N : Nat) (hN : 8 * zs.length ≤ N) (hreach : zs.length ≤ 1099511627776)
    (J Jx : List Bit → World → Prop) (D : Nat → Prop) (hDb : D Bs) (hDs : zs ≠ [] → ∀ b, sv.ownBlock = some b → D b)
    (hY : ∀ pre x W, J pre W → pre.length < N → YieldAt Fence.wide 0 Try.prog l #[.int .i64 (x.1 : Nat)] W fun e W' =>
      (e = .returned (.bool true) ∧ J (pre ++ [x]) W' ∧ KeepD D W W') ∨ (e = .returned (.bool false) ∧ Jx (pre ++ [x]) W'))
    (W : World) (hb : W.cell? ⟨Bs, 0, none⟩ = some sv) (hs : Bytes W sv zs) (h0 : J [] W) :
    CallsIn Fence.wide 1 Try.prog 81 #[.func (.yield l) #[] #[], .pointer (some ⟨Bs, 0, none⟩)] W fun e W' => (∃ v, e = .returned v) ∧
      ((∃ ys, ys.map Subtype.val = lowOf zs ∧ J ys W') ∨ (∃ pre, pre.map Subtype.val <+: lowOf zs ∧ Jx pre W')) := by
  refine callsIn_of_wp Try.func81 rfl trivial ?_ rfl
  simp only [Try.ntmps81, List.size_toArray, List.length_cons, List.length_nil, Nat.reduceAdd, Nat.reduceSub, Array.replicate_succ, Array.replicate_zero, List.push_toArray, List.append_toArray, List.nil_append, List.cons_append]
  obtain ⟨a, cap, rfl⟩ : ∃ a cap, sv = .slice a zs.length cap := by obtain ⟨_, a, cap, rfl, _⟩ := hs; exact ⟨a, cap, rfl⟩
  have Hs := Lib.hid hs; clear hs
  have HY := Lib.hid @hY; clear hY
  gi_wp2
  gi_loopw [8] (fun i wr => ∃ (j : Nat) (ys : List Bit), j ≤ zs.length ∧ i = .int .i64 j ∧ ys.map Subtype.val = lowOf (zs.take j) ∧ J ys wr ∧ KeepD D W wr)
    (fun i _ => zs.length - (intOf i).toNat)
  case atStart => exact ⟨0, [], Nat.zero_le _, rfl, rfl, h0, KeepD.refl _ _⟩
  case round =>
    obtain ⟨j, ys, hj, rfl, hys, hJs, hkd⟩ := hrel
    obtain ⟨wo, rfl⟩ : ∃ wo : World, wo = wr := ⟨_, rfl⟩
    have Hys := Lib.hid hys; clear hys
    by_cases hlt : j < zs.length
    · obtain ⟨h255, a', cap', he, _, hz⟩ := Hs.out.keep hkd hDs
      cases he
      have hz' : zs ≠ [] := by rintro rfl; simp at hlt
      rcases hz with hz | ⟨b, off, rfl, hz⟩
      · exact absurd hz hz'
      have hzj := hz j hlt
      have hz1 := h255 j
      have hzg : zs[j]? = some (zs.getD j 0) := by simp [List.getD_eq_getElem?_getD, hlt]
      generalize zs.getD j 0 = z at *
      have Hzg := Lib.hid hzg; clear hzg
      clear hz h255
      gi_wp2
      gi_loopw [12] (fun v wr => ∃ (i : Nat) (y2 : List Bit), i ≤ 8 ∧ v = .int .i64 i ∧ y2.map Subtype.val = lowOf (zs.take j) ++ lowB z i ∧ J y2 wr ∧ KeepD D W wr) (fun v _ => 8 - (intOf v).toNat)
      case atStart => exact ⟨0, ys, by omega, rfl, by rw [Hys.out]; simp [lowB], hJs, hkd⟩
      case round =>
        obtain ⟨i, y2, hi, rfl, hy2, hJ2, hk2⟩ := hrel
        clear hJs hkd hzj
        by_cases hi8 : i < 8
        · obtain ⟨⟨x, hx⟩, hxb⟩ : ∃ xb : Bit, xb.1 = z / 2 ^ i % 2 := ⟨⟨z / 2 ^ i % 2, by omega⟩, rfl⟩
          have hlen : y2.length < N := by
            have h1 := congrArg List.length hy2
            have h2 := lowOf_length (zs.take j)
            simp [lowB_length] at h1 h2
            omega
          obtain ⟨fn, tmps, assign, body, hy, hR⟩ := HY.out y2 ⟨x, hx⟩ wr hJ2 hlen
          dsimp only at hy hxb
          have hnext : (y2 ++ [(⟨x, hx⟩ : Bit)]).map Subtype.val = lowOf (zs.take j) ++ lowB z (i + 1) := by
            rw [List.map_append, hy2, lowB_succ, ← hxb, List.append_assoc]; rfl
          have hbit : Go.bits .and .u8 ((z : Int) / 2 ^ i) 1 = (x : Int) := and_one hz1 hxb
          have hmin : min i 8 = i := by omega
          have Hnext := Lib.hid hnext; clear hnext
          have Hy2 := Lib.hid hy2; clear hy2
          have Hxb := Lib.hid hxb; clear hxb
          gi_wp2
          refine hR.mono ?_
          rintro e W3 (⟨rfl, hJ3, hk3⟩ | ⟨rfl, hJx3⟩)
          · gi_wp2
            go_roundw
            case rel => exact ⟨i + 1, y2 ++ [⟨x, hx⟩], by omega, by go_num, Hnext.out, hJ3, hk2.trans hk3⟩
            case measure => simp [intOf]; omega
          · gi_wp2
            refine bodyPost_ret (results_none rfl _ _ _) rfl ?_
            refine ⟨⟨_, rfl⟩, .inr ⟨y2 ++ [⟨x, hx⟩], ?_, hJx3⟩⟩
            rw [Hnext.out]
            exact lowOf_part Hzg.out (by omega)
        · obtain rfl : i = 8 := by omega
          have hn2 : y2.map Subtype.val = lowOf (zs.take (j + 1)) := by rw [hy2, lowOf_next Hzg.out]
          have Hn2 := Lib.hid hn2; clear hn2 hy2
          gi_wp2
          go_roundw
          case rel => exact ⟨j + 1, y2, by omega, by go_num, Hn2.out, hJ2, hk2⟩
          case measure => simp [intOf]; omega
    · obtain rfl : j = zs.length := by omega
      rw [List.take_length] at Hys
      gi_wp2
      go_end0
      exact ⟨⟨_, rfl⟩, .inl ⟨ys, Hys.out, hJs⟩⟩

def lowD (B : Nat) (sv : Value) (zs : List Nat) : Nat → Prop := fun k => k = B ∨ (zs ≠ [] ∧ sv.ownBlock = some k)
theorem lowest_seq (B : Nat) (sv : Value) (zs : List Nat) (w : World) (hreach : zs.length ≤ 1099511627776) (hb : w.cell? ⟨B, 0, none⟩ = some sv) (hs : Bytes w sv zs) (hD : ∀ k, lowD B sv zs k → k < w.heap.size) :
    SeqStopsK Fence.wide 1 Try.prog 81 #[.pointer (some ⟨B, 0, none⟩)] encBit (KeepD (lowD B sv zs)) (fun ys => ys.map Subtype.val = lowOf zs) (fun pre => pre.map Subtype.val <+: lowOf zs) (8 * zs.length) w := fun l J Jx W hW _ _ hY h0 => by
  have hk : KeepD (lowD B sv zs) w W := fun k hk => hW.block k (hD k hk)
  exact lowest1_in l B sv zs (8 * zs.length) (Nat.le_refl _) hreach J Jx (lowD B sv zs) (.inl rfl) (fun hz b h => .inr ⟨hz, h⟩) hY W ((hk.cell (p := ⟨B, 0, none⟩) (.inl rfl)).trans hb) (hs.keep hk (fun hz b h => .inr ⟨hz, h⟩)) h0

set_option maxRecDepth 100000 in
set_option maxHeartbeats 1000000 in
theorem crc32_any (sv : Value) (zs : List Nat) (w : World) (h : Bytes w sv zs) (hl : zs.length ≤ 1099511627776) :
    Calls Try.prog 32 #[sv] w fun e w' => e = .returned (.int .i64 ((lowOf zs).foldl c32 4294967295 ^^^ 4294967295 : Nat)) ∧ Upd NoB w w' := by
  obtain ⟨a, cap, rfl⟩ : ∃ a cap, sv = .slice a zs.length cap := by obtain ⟨_, a, cap, rfl, _⟩ := h; exact ⟨a, cap, rfl⟩
  obtain ⟨W, hW⟩ : ∃ W, W = w.alloc (.cells #[.int .u32 4294967295] 66) := ⟨_, rfl⟩
  have hu : Upd NoB w W := by rw [hW]; exact (Upd.refl _ _).alloc _
  have hB : W.heap[w.heap.size]? = some (.cells #[.int .u32 4294967295] 66 (0, 0)) := by rw [hW]; exact heap_alloc_new w _
  have hu2 : Upd NoB W (W.alloc (.cells #[.slice a zs.length cap] 27)) := (Upd.refl _ _).alloc _
  have b0 := heap_alloc_new W (.cells #[.slice a zs.length cap] 27)
  have hs2 : Bytes (W.alloc (.cells #[.slice a zs.length cap] 27)) (.slice a zs.length cap) zs :=
    h.keep (D := fun k => zs ≠ [] ∧ (Value.slice a zs.length cap).ownBlock = some k) ((hu.then hu2).keepD (fun k hk => ⟨by obtain ⟨c, t, fr, hc⟩ := h.lt hk.1 k hk.2; exact lt_of_block hc, noB k⟩)) (fun hz k hk => ⟨hz, hk⟩)
  have hB2 := hu2.heap hB (noB _)
  have hbW := lt_of_block hB
  have hlt : ∀ k, zs ≠ [] ∧ (Value.slice a zs.length cap).ownBlock = some k → k < w.heap.size := fun k hk => by obtain ⟨c, t, fr, hc⟩ := h.lt hk.1 k hk.2; exact lt_of_block hc
  have hsz : W.heap.size = w.heap.size + 1 := by rw [hW]; simp
  generalize hW2 : W.alloc (.cells #[.slice a zs.length cap] 27) = W2 at *
  have hD : ∀ k, lowD W.heap.size (.slice a zs.length cap) zs k → k < W2.heap.size ∧ k ≠ w.heap.size := by
    rintro k (rfl | hk)
    · exact ⟨lt_of_block b0, by omega⟩
    · have := hlt k hk
      have := hu.size
      have := hu2.size
      exact ⟨by omega, by omega⟩
  have hfeed := feed_in (gf := 81) (K := 68) (lb := #[.pointer (some ⟨W.heap.size, 0, none⟩)]) (first := #[]) (cap := #[.pointer (some ⟨w.heap.size, 0, none⟩)]) (Sp := fun pre => pre.map Subtype.val <+: lowOf zs) (N := 8 * zs.length) W2
    (enters_of Try.func81 (by kernel_rfl) rfl) (enters_of Try.func68 (by kernel_rfl) rfl)
    (lowest_seq W.heap.size _ zs W2 hl (cell_of_one b0) hs2 (fun k hk => (hD k hk).1)) (fun h k => h.trans k)
    (fun W' k o' hk => keepD_putObj (fun hd => by have := (hD _ hd).1; omega))
    (fun pre W' => W'.heap[w.heap.size]? = some (.cells #[.int .u32 ((pre.map Subtype.val).foldl c32 4294967295 : Nat)] 66 (0, 0)) ∧ Upd (fun k => k = w.heap.size) W2 W')
    (fun s A B row hs hg hr => ⟨(hg.block _ (lt_of_block hs.1) (fun e => by
        obtain ⟨_, o, ho, hc⟩ := hr _ e.symm
        rw [hs.1] at ho; cases ho; cases hc)).trans hs.1, hs.2.grown hg (fun k e hk => by have := (hr k e).1; omega)⟩)
    ⟨hB2, Upd.refl _ _⟩
    (fun pre x W' hi hN hbox => by
      refine (step32_any w.heap.size ((pre.map Subtype.val).foldl c32 4294967295) x.1 W' (fold32_lt _ _ (by omega)) x.2 hi.1).mono ?_
      rintro e W3 ⟨rfl, h1, h2⟩
      refine ⟨⟨_, rfl⟩, ⟨?_, hi.2.trans h2 (fun _ _ h => h)⟩, ?_, ?_, ?_⟩
      · rw [List.map_append, List.foldl_append]; exact h1
      · intro k hk
        exact h2.block k (Nat.lt_of_lt_of_le (hD k hk).1 hi.2.size) (hD k hk).2
      · exact notcells_grown h2 (fun k hk => by subst hk; exact ⟨_, _, _, hi.1⟩) _
      · rintro k rfl
        refine h2.block _ (lt_of_block hbox) ?_
        have := hu2.size
        omega)
  have Hf := Lib.hid hfeed; clear hfeed
  have HW2 := Lib.hid hW2; clear hW2
  have Hsz := Lib.hid hsz; clear hsz
  have HW := Lib.hid hW; clear hW
  clear b0 hs2 hB2 h
  go_enter Try.func32, Try.ntmps32
  go_wp2_with (first | (go_at_call 69; refine (lowest_in _ _ _ _).mono ?_; rintro e w2 ⟨rfl, rfl⟩))
  rw [← HW.out, HW2.out, ← Hsz.out]
  refine Hf.out.mono ?_
  rintro e W3 ⟨rfl, ys, hys, h1, h2⟩
  rw [hys] at h1
  have hlt32 := fold32_lt (lowOf zs) 4294967295 (by omega)
  obtain ⟨y, hy⟩ : ∃ y, y = (lowOf zs).foldl c32 4294967295 := ⟨_, rfl⟩
  rw [← hy] at h1 hlt32
  have hc := cell_of_one h1
  have hx : Go.bits .xor .u32 (y : Int) 4294967295 = ((y ^^^ 4294967295 : Nat) : Int) := u32_xor_nat y 4294967295 hlt32 (by omega)
  have hxl : y ^^^ 4294967295 < 4294967296 := Nat.xor_lt_two_pow (n := 32) (by omega) (by omega)
  have Hy := Lib.hid hy; clear hy
  clear h1 hys
  go_wp2
  go_ret
  refine ⟨by rw [← Hy.out]; rfl, (hu.then hu2).trans h2 ?_⟩
  rintro k hk rfl
  omega
end Go.Proofs.Ytdjaileeklhkmaa
