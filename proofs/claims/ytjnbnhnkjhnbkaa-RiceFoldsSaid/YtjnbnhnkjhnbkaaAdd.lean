/- (*bits.Writer).add -/
import Derived.Test.YtjnbnhnkjhnbkaaBase
import Derived.Test.YtjnbnhnkjhnbkaaRows
import Derived.StillTailTactics
namespace Go.Proofs.Ytjnbnhnkjhnbkaa
open Go.RowKit

set_option maxRecDepth 100000 in
set_option maxHeartbeats 400000 in
theorem add_in (b g cap n : Nat) (x old : Nat) (w : World) (hn : n ≤ 1099511627776) (h8 : 0 < n % 8) (hx : x ≤ 1) (ho : old ≤ 255)
   (h0 : w.cell? ⟨b, 0, none⟩ = some (.slice (some ⟨g, 0, none⟩) ((n + 7) / 8) cap)) (h1 : w.cell? ⟨b, 1, none⟩ = some (.int .i64 n))
   (f1 : w.frozen? ⟨b, 1, none⟩ = false) (fg : w.frozen? ⟨g, n / 8, none⟩ = false)
   (hg : w.cell? ⟨g, n / 8, none⟩ = some (.int .u8 old)) (hbg : b ≠ g) :
    Calls Try.prog 65 #[.pointer (some ⟨b, 0, none⟩), .int .i64 x] w fun e w' => e = .returned (.tuple #[]) ∧
      w' = (w.drew.setCell ⟨g, n / 8, none⟩ (.int .u8 ((old ||| (x * 2 ^ (7 - n % 8)) : Nat)))).setCell ⟨b, 1, none⟩ (.int .i64 (n + 1 : Nat)) := by
  have t8 : ((n : Int) % 8 == 0) = false := by simp; omega
  have hidx : n / 8 < (n + 7) / 8 := by omega
  have hidx' : (n : Int) / 8 < ((n : Int) + 7) / 8 := by omega
  have hidx0 : 0 ≤ (n : Int) / 8 := by omega
  have q0 : ((n : Int) / 8).toNat = n / 8 := by omega
  go_enter Try.func65, Try.ntmps65
  go_wp2
  have q1 : (7 - (n : Int) % 8).toNat = 7 - n % 8 := by omega
  have hs0 : 0 ≤ 7 - (n : Int) % 8 := by omega
  have hs1 : 7 - (n : Int) % 8 < 64 := by omega
  have k0 : (n : Int).tmod 8 = (n : Int) % 8 := Int.tmod_eq_emod_of_nonneg (by omega)
  have k1 : IntKind.i64.wrap ((n : Int) / 8) = (n : Int) / 8 := IntWalk.i64_in _ (by omega)
  have k2 : IntKind.i64.wrap (7 - (n : Int) % 8) = 7 - (n : Int) % 8 := IntWalk.i64_in _ (by omega)
  refine wp_region_still_tail 22 (by kernel_rfl) (by kernel_rfl) ?_
  simp only [List.take_succ_cons, List.take_zero, List.drop_succ_cons, List.drop_zero]
  repeat still_step
  refine wpStill_nil ?_
  change wpList _ _ _ _ _ w.drew
  go_wp2
  go_end0
  refine ⟨rfl, ?_⟩
  rw [or_val ho hx]
  rfl

theorem Try.info5 : (Try.prog.info? 5).map (fun i => (i.zero, i.size, i.bytes)) = some (some (.int .u8 0), 1, 1) := by kernel_rfl

set_option maxRecDepth 100000 in
set_option maxHeartbeats 400000 in
theorem add_new (b n : Nat) (v : Value) (x : Nat) (zs : List Value) (w : World) (hn : n ≤ 1099511627776) (h8 : n % 8 = 0) (hx : x ≤ 1)
   (hb : w.heap[b]? = some (.cells #[v, .int .i64 n] 79 (0, 0)))
   (hown : w.ownsRow 0 5 1 v (n / 8) zs) :
    Calls Try.prog 65 #[.pointer (some ⟨b, 0, none⟩), .int .i64 x] w fun e w' => e = .returned (.tuple #[]) ∧
      ∃ g cap w1, w1.ownsRow 0 5 1 (.slice (some ⟨g, 0, none⟩) (n / 8 + 1) cap) (n / 8 + 1) (zs ++ [.int .u8 0]) ∧ (w.alloc (.cells #[.int .u8 0] 5)).grownBy w1 v.ownBlock ∧ (v.ownBlock = some g ∨ w.heap.size ≤ g) ∧ b ≠ g ∧
      w' = (((w1.setCell ⟨b, 0, none⟩ (.slice (some ⟨g, 0, none⟩) (n / 8 + 1) cap)).drew.setCell ⟨g, n / 8, none⟩ (.int .u8 ((x * 128 : Nat)))).setCell ⟨b, 1, none⟩ (.int .i64 (n + 1 : Nat))) := by
  obtain ⟨i0, hi, hz0, hz1, hz2⟩ := info_parts Try.info5
  have t8 : ((n : Int) % 8 == 0) = true := by simp; omega
  have h0 : w.cell? ⟨b, 0, none⟩ = some v := by simp [World.cell?, hb]
  have h1 : w.cell? ⟨b, 1, none⟩ = some (.int .i64 n) := by simp [World.cell?, hb]
  have f0 : w.frozen? ⟨b, 0, none⟩ = false := by simp [World.frozen?, hb]
  have hbs : b < w.heap.size := lt_of_block hb
  have hne := row_ne hown hb (by decide)
  have hl : zs.length = n / 8 := by simpa using hown.1
  have Hb := Lib.hid hb; clear hb
  go_enter Try.func65, Try.ntmps65
  go_wp2_with (at_builtin; refine wpList_append_mine rfl _ _ 32 rfl 5 i0 (.int .u8 0) 1 1 Try.underlying32 hi hz0 hz1 hz2 rfl (by decide) _ _ _ rfl (hown.alloc _) ⟨w.heap.size, 0, none⟩ 1 1 [.int .u8 0] rfl (by decide) rfl ?c1 ?c2 ?c3 ?c4 ?_)
  case c1 => exact cell_one_new _ _ _
  case c2 => simp [Value.oneCell']
  case c3 => unfold maxLen; omega
  case c4 => omega
  intro v' w1 hown' hgrow hnew
  obtain ⟨g, cap, rfl⟩ := row_slice hown' (by omega)
  have hb1 : w1.heap[b]? = some (.cells #[v, .int .i64 n] 79 (0, 0)) :=
    (hgrow.block b (by simp; omega) (fun e => hne e.symm)).trans ((Below.heap_alloc _ _ _ hbs).trans Hb.out)
  have hbg : b ≠ g := fun e => row_ne hown' hb1 (by decide) (by simp [Value.ownBlock, e])
  have g0 : w1.cell? ⟨b, 0, none⟩ = some v := by simp [World.cell?, hb1]
  have g1 : w1.cell? ⟨b, 1, none⟩ = some (.int .i64 n) := by simp [World.cell?, hb1]
  have gf : w1.frozen? ⟨b, 0, none⟩ = false := by simp [World.frozen?, hb1]
  have gf1 : w1.frozen? ⟨b, 1, none⟩ = false := by simp [World.frozen?, hb1]
  have gg : w1.cell? ⟨g, n / 8, none⟩ = some (.int .u8 0) := by
    rw [hown'.cellAt _ (by omega), ← hl]; simp
  have ggf : w1.frozen? ⟨g, n / 8, none⟩ = false := hown'.frozenAt _
  have hidx : n / 8 < n / 8 + 1 := by omega
  have hidx' : (n : Int) / 8 < (n : Int) / 8 + 1 := by omega
  have hidx0 : 0 ≤ (n : Int) / 8 := by omega
  have q0 : ((n : Int) / 8).toNat = n / 8 := by omega
  have Hb1 := Lib.hid hb1; clear hb1
  have Hl := Lib.hid hl; clear hl
  go_wp2
  obtain ⟨W, hW⟩ : ∃ W, W = w1.setCell ⟨b, 0, none⟩ (.slice (some ⟨g, 0, none⟩) (n / 8 + 1) cap) := ⟨_, rfl⟩
  rw [← hW]
  have c0 : W.cell? ⟨b, 0, none⟩ = some (.slice (some ⟨g, 0, none⟩) (n / 8 + 1) cap) := by rw [hW]; exact World.cell?_setCell_same _ _ _ g0
  have c1 : W.cell? ⟨b, 1, none⟩ = some (.int .i64 n) := by rw [hW, World.cell?_setCell_other _ _ _ _ (by simp)]; exact g1
  have cf1 : W.frozen? ⟨b, 1, none⟩ = false := by rw [hW, World.frozen?_setCell]; exact gf1
  have cg : W.cell? ⟨g, n / 8, none⟩ = some (.int .u8 0) := by rw [hW, World.cell?_setCell_other _ _ _ _ (by simp [hbg])]; exact gg
  have cgf : W.frozen? ⟨g, n / 8, none⟩ = false := by rw [hW, World.frozen?_setCell]; exact ggf
  have HW := Lib.hid hW; clear hW
  clear g0 g1 gf gf1 gg ggf
  have q1 : (7 - (n : Int) % 8).toNat = 7 - n % 8 := by omega
  have hs0 : 0 ≤ 7 - (n : Int) % 8 := by omega
  have hs1 : 7 - (n : Int) % 8 < 64 := by omega
  have k0 : (n : Int).tmod 8 = (n : Int) % 8 := Int.tmod_eq_emod_of_nonneg (by omega)
  have k1 : IntKind.i64.wrap ((n : Int) / 8) = (n : Int) / 8 := IntWalk.i64_in _ (by omega)
  have k2 : IntKind.i64.wrap (7 - (n : Int) % 8) = 7 - (n : Int) % 8 := IntWalk.i64_in _ (by omega)
  refine wp_region_still_tail 22 (by kernel_rfl) (by kernel_rfl) ?_
  simp only [List.take_succ_cons, List.take_zero, List.drop_succ_cons, List.drop_zero]
  repeat still_step
  refine wpStill_nil ?_
  go_wp2
  go_end0
  refine ⟨rfl, g, cap, w1, hown', hgrow, ?_, hbg, ?_⟩
  · rcases hnew g rfl with h | h
    · exact .inl h
    · simp at h; exact .inr (by omega)
  · have e : Go.bits .or .u8 0 ((x : Int) * 128) = ((x * 128 : Nat) : Int) := by
      have := u8_or_nat 0 (x * 128) (by omega) (by omega)
      simpa using this
    rw [e, ← HW.out]
    rfl

/-- A writer at block b: its bits are l, its bytes the slice v. -/
def WAt (w : World) (b : Nat) (l : List Nat) (v : Value) : Prop :=
  w.heap[b]? = some (.cells #[v, .int .i64 (l.length : Nat)] 79 (0, 0)) ∧ w.ownsRow 0 5 1 v ((l.length + 7) / 8) ((pack l).map fun z : Nat => Value.int .u8 z) ∧ bit01 l
def wfoot (b : Nat) (v : Value) : Nat → Prop := fun k => k = b ∨ v.ownBlock = some k

theorem WAt.upd {w w' : World} {b : Nat} {l : List Nat} {v : Value} (h : WAt w b l v) {S : Nat → Prop} (u : Upd S w w') (hs : ∀ k, wfoot b v k → ¬ S k) : WAt w' b l v :=
  ⟨u.heap h.1 (hs b (.inl rfl)), u.row h.2.1 (fun k hk => hs k (.inr hk)), h.2.2⟩
theorem WAt.len {w : World} {b : Nat} {l : List Nat} {v : Value} (h : WAt w b l v) : w.cell? ⟨b, 1, none⟩ = some (.int .i64 (l.length : Nat)) := by simp [World.cell?, h.1]

theorem add_any (b : Nat) (l : List Nat) (v : Value) (x : Nat) (w : World) (h : WAt w b l v) (hl : l.length < 1099511627776) (hx : x ≤ 1) :
    Calls Try.prog 65 #[.pointer (some ⟨b, 0, none⟩), .int .i64 x] w fun e w' => e = .returned (.tuple #[]) ∧
      ∃ v', WAt w' b (l ++ [x]) v' ∧ Upd (wfoot b v) w w' ∧ newOr w v v' := by
  obtain ⟨hb, hown, hbit⟩ := h
  have hbs := lt_of_block hb
  by_cases h8 : l.length % 8 = 0
  · rw [show (l.length + 7) / 8 = l.length / 8 by omega] at hown
    refine (add_new b l.length v x _ w (by omega) h8 hx hb hown).mono ?_
    rintro e w' ⟨rfl, g, cap, w1, hown', hgrow, hnew, hbg, rfl⟩
    have hne := row_ne hown hb (by decide)
    have hb1 : w1.heap[b]? = some (.cells #[v, .int .i64 (l.length : Nat)] 79 (0, 0)) :=
      (hgrow.block b (by simp; omega) (fun e => hne e.symm)).trans ((Below.heap_alloc _ _ _ hbs).trans hb)
    have hpl : (pack l).length = l.length / 8 := by rw [pack_length]; omega
    refine ⟨rfl, .slice (some ⟨g, 0, none⟩) (l.length / 8 + 1) cap, ⟨?_, ?_, bit01_snoc hbit hx⟩, ?_, ?_⟩
    · have e1 := block_set (i := 0) hb1 (.slice (some ⟨g, 0, none⟩) (l.length / 8 + 1) cap)
      have e2 : ((w1.setCell ⟨b, 0, none⟩ (.slice (some ⟨g, 0, none⟩) (l.length / 8 + 1) cap)).drew.setCell ⟨g, l.length / 8, none⟩ (.int .u8 ((x * 128 : Nat)))).heap[b]? = _ :=
        block_keep (w := (w1.setCell ⟨b, 0, none⟩ (.slice (some ⟨g, 0, none⟩) (l.length / 8 + 1) cap)).drew) e1 (p := ⟨g, l.length / 8, none⟩) (fun e => hbg e.symm) _
      rw [block_set e2]
      simp
    · have r1 := ownsRow_setCell_other hown' (a := ⟨b, 0, none⟩) (by simp [Value.ownBlock]; exact fun e => hbg e.symm) (.slice (some ⟨g, 0, none⟩) (l.length / 8 + 1) cap)
      have r2 := (World.ownsRow.stored (w := (w1.setCell ⟨b, 0, none⟩ (.slice (some ⟨g, 0, none⟩) (l.length / 8 + 1) cap)).drew) r1 (l.length / 8) (.int .u8 ((x * 128 : Nat)))).1
      have r3 := ownsRow_setCell_other r2 (a := ⟨b, 1, none⟩) (by simp [Value.ownBlock]; exact fun e => hbg e.symm) (.int .i64 (l.length + 1 : Nat))
      have e3 : ((l ++ [x]).length + 7) / 8 = l.length / 8 + 1 := by simp; omega
      rw [e3, pack_snoc_new x h8]
      simpa [List.set_append, hpl, Nat.mul_comm] using r3
    · refine Upd.setCell (Upd.setCell (Upd.drew (Upd.setCell (Upd.grown ((Upd.refl _ w).alloc _) hgrow ?_) _ ?_)) _ ?_) _ ?_
      · intro k hk _; exact .inr hk
      · intro _; exact .inl rfl
      · intro hg
        rcases hnew with h | h
        · exact .inr h
        · exact absurd hg (by simp; omega)
      · intro _; exact .inl rfl
    · intro k hk
      have : g = k := by simpa [Value.ownBlock] using hk
      subst this
      exact hnew
  · have h8' : 0 < l.length % 8 := by omega
    obtain ⟨g, cap, rfl⟩ := row_slice hown (by omega)
    have hbg : b ≠ g := fun e => row_ne hown hb (by decide) (by simp [Value.ownBlock, e])
    have hpl := pack_length l
    have hcell : w.cell? ⟨g, l.length / 8, none⟩ = some (.int .u8 (packByte l (l.length / 8) : Nat)) := by
      rw [hown.cellAt _ (by omega), List.getElem?_map, pack_get, if_pos (by omega)]; rfl
    refine (add_in b g cap l.length x (packByte l (l.length / 8)) w (by omega) h8' hx (packByte_le hbit _) (by simp [World.cell?, hb]) (by simp [World.cell?, hb]) (by simp [World.frozen?, hb]) (hown.frozenAt _) hcell hbg).mono ?_
    rintro e w' ⟨rfl, rfl⟩
    refine ⟨rfl, .slice (some ⟨g, 0, none⟩) ((l.length + 7) / 8) cap, ⟨?_, ?_, bit01_snoc hbit hx⟩, ?_, newOr.refl _ _⟩
    · have e2 : (w.drew.setCell ⟨g, l.length / 8, none⟩ (.int .u8 ((packByte l (l.length / 8) ||| (x * 2 ^ (7 - l.length % 8)) : Nat)))).heap[b]? = _ :=
        block_keep (w := w.drew) hb (p := ⟨g, l.length / 8, none⟩) (fun e => hbg e.symm) _
      rw [block_set e2]
      simp
    · have r2 := (World.ownsRow.stored (w := w.drew) hown (l.length / 8) (.int .u8 ((packByte l (l.length / 8) ||| (x * 2 ^ (7 - l.length % 8)) : Nat)))).1
      have r3 := ownsRow_setCell_other r2 (a := ⟨b, 1, none⟩) (by simp [Value.ownBlock]; exact fun e => hbg e.symm) (.int .i64 (l.length + 1 : Nat))
      have e3 : ((l ++ [x]).length + 7) / 8 = (l.length + 7) / 8 := by simp; omega
      rw [e3, pack_snoc_in x h8', List.map_set, ← or_add (by omega) (packByte_free l) hx]
      exact r3
    · refine Upd.setCell (Upd.setCell (Upd.drew (Upd.refl _ w)) _ ?_) _ ?_
      · intro _; exact .inr rfl
      · intro _; exact .inl rfl
end Go.Proofs.Ytjnbnhnkjhnbkaa
