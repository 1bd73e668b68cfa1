/- the reader's calls: Take, Open -/
import Derived.Test.YtdjaileeklhkmaaGets3
import Derived.Deep.RegionHeld3
namespace Go.Proofs.Ytdjaileeklhkmaa
open Go.RowKit Go.Shelf

theorem take_nil (n : Int) (w : World) : Calls Try.prog 40 #[.pointer none, .int .i64 n] w fun e w' => e = .returned (.tuple #[.slice none 0 0, .int .i64 1]) ∧ w = w' := by
  go_enter Try.func40, Try.ntmps40
  go_wp2
  go_ret2
  exact ⟨rfl, rfl⟩

theorem WAt.row8 {w : World} {b : Nat} {l : List Nat} {v : Value} (h : WAt w b l v) : Row8 w v (pack l) :=
  ⟨by rw [pack_length]; exact h.2.1, fun j => by
    simp only [List.getD_eq_getElem?_getD, pack_get]
    by_cases hj : j < (l.length + 7) / 8
    · rw [if_pos hj]; exact packByte_le h.2.2 j
    · rw [if_neg hj]; simp⟩
/-- What Take comes to. -/
def TRes (b : Nat) (sv : Value) (zs : List Nat) (cnt : Nat) (w : World) (out : List Nat) (err : Int) (at' : Nat) (e : Ending) (w' : World) : Prop :=
  ∃ v, e = .returned (.tuple #[v, .int .i64 err]) ∧ Row8 w' v out ∧ newB w v ∧ RAt w' b sv zs cnt at' ∧ Upd (fun k => k = b) w w'

theorem wpost_cell {b : Nat} {v0 : Value} {w w' : World} {l : List Nat} (h : WPost b v0 w l w') {p : Addr} {u : Value} (hc : w.cell? p = some u) (h1 : p.block ≠ b) (h2 : v0.ownBlock ≠ some p.block) : w'.cell? p = some u := by
  obtain ⟨v, _, hu, _⟩ := h
  exact hu.cell hc (fun h => h.elim h1 h2)
set_option maxRecDepth 100000 in
set_option maxHeartbeats 1000000 in
theorem take_good (b : Nat) (sv : Value) (zs : List Nat) (cnt at_ n : Nat) (w : World) (h : RAt w b sv zs cnt at_) (hsep : zs ≠ [] → sv.ownBlock ≠ some b) (hn : at_ + n ≤ cnt) :
    Calls Try.prog 40 #[.pointer (some ⟨b, 0, none⟩), .int .i64 n] w fun e w' => TRes b sv zs cnt w (pack (bitsOf zs at_ n)) 0 (at_ + n) e w' := by
  have hcnt := h.2.2.2.2.1
  have hat := h.2.2.2.1
  have c1 := h.c1
  have c2 := h.c2
  obtain ⟨a, cap, rfl⟩ := h.sv
  have hbs := lt_of_block h.1
  have H := Lib.hid h; clear h
  have k1 : IntKind.i64.wrap ((at_ : Int) + n) = (at_ : Int) + n := IntWalk.i64_in _ (by omega)
  go_enter Try.func40, Try.ntmps40
  go_wp2_with (first | (go_at_call 28; refine (left_any b cnt at_ _ c1 c2 hcnt hat).mono ?_; rintro e w2 ⟨rfl, rfl⟩) | (go_at_call 13; refine (new_any _).mono ?_; rintro e w2 ⟨rfl, rfl⟩))
  obtain ⟨W, hW⟩ : ∃ W, W = (w.alloc (.cells #[.slice none 0 0, .int .i64 0] 29)).drew := ⟨_, rfl⟩
  rw [← hW]
  have hu : Upd NoB w W := by rw [hW]; exact ((Upd.refl _ _).alloc _).drew
  have hR := H.out.upd hu (fun k _ => noB k)
  have hWr : WAt W w.heap.size [] (.slice none 0 0) := by rw [hW]; exact WAt_new w
  have d0 := hR.c0
  have d2 := hR.c2
  have HR := Lib.hid hR; clear hR
  have HWr := Lib.hid hWr; clear hWr
  have HW := Lib.hid hW; clear hW
  obtain ⟨b0, b1, b2, hu2⟩ := boxes3 W (.cells #[.slice a zs.length cap] 27) (.cells #[.int .i64 at_] 3) (.cells #[.int .i64 (at_ + n : Nat)] 3)
  have hR2 := HR.out.upd hu2 (fun k _ => noB k)
  have hW2 := HWr.out.upd hu2 (fun k _ => noB k)
  have e0 := hR2.c0
  have e2 := hR2.c2
  have hsepw : zs ≠ [] → ∀ k, (Value.slice a zs.length cap).ownBlock = some k → ¬ wfoot w.heap.size (.slice none 0 0) k := by
    intro hz k hk
    obtain ⟨c, t, fr, hc⟩ := H.out.2.1.lt hz k hk
    have := lt_of_block hc
    rintro (h | h)
    · omega
    · cases h
  have hW3 : WAt (World.drew (((W.alloc (.cells #[.slice a zs.length cap] 27)).alloc (.cells #[.int .i64 at_] 3)).alloc (.cells #[.int .i64 (at_ + n : Nat)] 3))) w.heap.size [] (.slice none 0 0) := hW2
  have hB3 : Bytes (World.drew (((W.alloc (.cells #[.slice a zs.length cap] 27)).alloc (.cells #[.int .i64 at_] 3)).alloc (.cells #[.int .i64 (at_ + n : Nat)] 3))) (.slice a zs.length cap) zs := hR2.2.1
  have fa := feeda w.heap.size [] (.slice none 0 0) _ zs at_ n (World.drew (((W.alloc (.cells #[.slice a zs.length cap] 27)).alloc (.cells #[.int .i64 at_] 3)).alloc (.cells #[.int .i64 (at_ + n : Nat)] 3))) hW3 (by simp) hB3 (by have := hR2.2.2.1; omega) (by omega) hR2.2.2.2.2.2 hsepw W.heap.size b0 b1 b2
  simp only [Int.natCast_add, betweenLb, List.nil_append] at fa b2 e0 e2 hu2
  have hbW : b < W.heap.size := Nat.lt_of_lt_of_le hbs hu.size
  have Hfa := Lib.hid fa; clear fa
  have Hu2 := Lib.hid hu2; clear hu2
  have HR2 := Lib.hid hR2; clear hR2
  have Hsepw := Lib.hid hsepw; clear hsepw
  clear hW2 b0 b1 b2 hW3 hB3
  go_region_held3 (fun w' => w'.cell? ⟨b, 0, none⟩ = some (.slice a zs.length cap) ∧ w'.cell? ⟨b, 2, none⟩ = some (.int .i64 at_)) (first | exact ⟨d0, d2⟩ | exact ⟨e0, e2⟩ | exact ⟨g0, g2⟩)
    (first | (go_at_call 67; refine (between_in _ _ _ _ _ _).mono ?_; rintro e w3 ⟨rfl, rfl⟩) | (go_at_call 66; refine Hfa.out.mono ?_; rintro e w4 ⟨rfl, hp⟩; have g0 := wpost_cell hp (show (World.drew _).cell? _ = _ from e0) (by show b ≠ w.heap.size; omega) (by simp [Value.ownBlock]); have g2 := wpost_cell hp (show (World.drew _).cell? _ = _ from e2) (by show b ≠ w.heap.size; omega) (by simp [Value.ownBlock])))
  all_goals
    obtain ⟨v, hv1, hv2, hv3⟩ := hp
    have hR4 := HR2.out.drew.upd hv2 (fun k hk => by
      rcases hk with rfl | ⟨hz, hk⟩
      · rintro (h | h)
        · omega
        · cases h
      · exact Hsepw.out hz k hk)
    have q0 : w4.cell? ⟨w.heap.size, 0, none⟩ = some v := blk_cell hv1.1 0
    have q2 := blk_free hR4.1 2
    have hvb : v.ownBlock ≠ some b := fun e => by
      rcases hv3 b e with h | h
      · cases h
      · simp at h; omega
    obtain ⟨m1, m2⟩ := hR4.move hsep (at_ + n) hn
    have hW5 := hv1.upd m2 (fun k hk => by
      rintro rfl
      rcases hk with h | h
      · omega
      · exact hvb h)
    rw [Int.natCast_add] at m1 m2 hW5
    have hu5 : Upd (fun k => k = b) w (w4.setCell ⟨b, 2, none⟩ (.int .i64 ((at_ : Int) + n))) := by
      refine (Upd.trans (T := fun k => k = b) ?_ m2 (fun k _ hk => hk))
      refine (nob (hu.then Hu2.out.drew)).trans hv2 ?_
      rintro k hk (h | h)
      · omega
      · cases h
    have hsz5 : newB w v := fun k hk => by
      rcases hv3 k hk with h | h
      · cases h
      · have := hu.size; simp at h; omega
    have M1 := Lib.hid m1; clear m1
    have HW5 := Lib.hid hW5; clear hW5
    have HU5 := Lib.hid hu5; clear hu5
    have HS5 := Lib.hid hsz5; clear hsz5
    have HR4 := Lib.hid hR4; clear hR4
    have HV1 := Lib.hid hv1; clear hv1
    have HV2 := Lib.hid hv2; clear hv2
    have HV3 := Lib.hid hv3; clear hv3
    have M2 := Lib.hid m2; clear m2
    clear d0 d2 e0 e2
    have hnb : b ≠ w.heap.size := by omega
    go_wp2
    go_ret2
    exact ⟨v, rfl, WAt.row8 HW5.out, HS5.out, M1.out, HU5.out⟩
end Go.Proofs.Ytdjaileeklhkmaa
