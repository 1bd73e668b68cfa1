/- rice: the chapter's examples hold -/
import Derived.Test.YtmdladcfckoglaaKP
namespace Go.Proofs.Ytmdladcfckoglaa
open Go.RowKit Go.Shelf

def kL1 : List Nat := [0, 0, 1, 1]
def kL2 : List Nat := [0, 0, 1, 1, 0,0,0,0,0,0,0,0,0,0,0,0,0,0,0,0,0,0,0,0,0,0,0,0, 1, 0,0,0,0,0,0,0,0,0,0,0,0,0,0,0,0,0,0,0,0,0,0,0,0,0,0,0, 1,1,0,0,0]
theorem k_p1 : putE ([] : List Nat).length (-3) 1 = 0 ∧ putB ([] : List Nat).length (-3) 1 = kL1 := by decide +kernel
theorem k_p2 : putE kL1.length 12 0 = 0 ∧ kL1 ++ putB kL1.length 12 0 = kL2 := by decide +kernel
theorem k_f : foldS (-3) = 5 ∧ foldE (-3) = 0 := by decide +kernel
theorem k_u : ufS 5 = -3 ∧ ufE 5 = 0 := by decide +kernel
theorem k_b : bestK [0, 0, 0] = 0 ∧ bestC [0, 0, 0] = 3 ∧ listE [0, 0, 0] = 0 := by decide +kernel
theorem k_o : ordK [] = 0 ∧ ordC [] = 6 ∧ listE [] = 0 := by decide +kernel
def kZ : List Nat := [48, 0, 0, 8, 0, 0, 0, 192]
theorem k_z : pack kL2 = kZ := by decide +kernel
theorem k_g1 : gtR kZ 61 0 1 = (-3, 0, 4) := by decide +kernel
theorem k_g2 : gtR kZ 61 4 0 = (12, 0, 61) := by decide +kernel
theorem bytes_one {w : World} {a : Option Addr} {n c : Nat} {z : Nat} {zs : List Nat} (h : Bytes w (.slice a n c) (z :: zs)) : Bytes w (.slice a 1 c) [z] := by
  obtain ⟨h1, a', c', e, hle, h3⟩ := h
  cases e
  refine ⟨fun j => ?_, _, _, rfl, by simp at hle ⊢; omega, .inr ?_⟩
  · cases j with
    | zero => exact h1 0
    | succ j => simp
  · rcases h3 with h3 | ⟨b, off, rfl, h3⟩
    · cases h3
    · refine ⟨b, off, rfl, fun j hj => ?_⟩
      have : j = 0 := by simpa using hj
      subst this
      exact h3 0 (by simp)
theorem ints_lit3 (w : World) : Ints (w.alloc (.cells #[.int .i64 0, .int .i64 0, .int .i64 0] 3)) (.slice (some ⟨w.heap.size, 0, none⟩) 3 3) [0, 0, 0] := by
  refine ⟨by decide, _, _, rfl, ⟨Nat.le_refl _, fun e => by cases e⟩, .inr ⟨_, _, rfl, fun j x hj => ?_⟩⟩
  rw [Nat.zero_add, blk_cell (heap_alloc_new w _) j]
  match j with
  | 0 | 1 | 2 => simp at hj ⊢; omega
  | j + 3 => simp at hj
set_option maxRecDepth 100000 in
set_option maxHeartbeats 4000000 in
theorem kawake_any (w : World) : Calls Try.prog 16 #[] w fun e w' => e = .returned (.bool true) ∧ Upd NoB w w' := by
  go_enter Try.func16, Try.ntmps16
  go_wp2_with (first | (go_at_call 12; refine (Fold_any _ _).mono ?_; rw [k_f.1, k_f.2]; rintro e w' ⟨rfl, rfl⟩) | (go_at_call 14; refine (Unfold_any _ _).mono ?_; rw [k_u.1, k_u.2]; rintro e w' ⟨rfl, rfl⟩))
  refine (new_any w).mono ?_
  rintro e w1 ⟨rfl, rfl⟩
  have a1 := WAt_new w
  have u1 : Upd NoB w (w.alloc (.cells #[.slice none 0 0, .int .i64 0] 79)) := (Upd.refl _ _).alloc _
  generalize w.alloc (.cells #[.slice none 0 0, .int .i64 0] 79) = w1 at *
  have A1 := Lib.hid a1; clear a1
  have U1 := Lib.hid u1; clear u1
  go_wp2_with fail
  refine (Put_any w.heap.size [] _ (-3) 1 w1 A1.out (by simp)).mono ?_
  rw [k_p1.1, k_p1.2]
  rintro e w2 ⟨rfl, hp⟩
  obtain ⟨v2, a2, u2, n2⟩ := hp.step U1.out (Nat.le_refl _) (newB_nil _)
  rw [List.nil_append] at a2
  have A2 := Lib.hid a2; have U2 := Lib.hid u2; have N2 := Lib.hid n2; clear a2 u2 n2 hp A1 U1
  go_wp2_with fail
  refine (Put_any w.heap.size kL1 v2 12 0 w2 A2.out (by decide)).mono ?_
  rw [k_p2.1, k_p2.2]
  rintro e w3 ⟨rfl, hp⟩
  obtain ⟨v3, a3, u3, n3⟩ := hp.step U2.out (Nat.le_refl _) N2.out
  have A3 := Lib.hid a3; have U3 := Lib.hid u3; clear a3 u3 n3 hp A2 U2 N2
  go_wp2_with fail
  have b3 := ints_lit3 w3
  have v3' : Upd NoB w3 (w3.alloc (.cells #[.int .i64 0, .int .i64 0, .int .i64 0] 3)) := (Upd.refl _ _).alloc _
  generalize w3.alloc (.cells #[.int .i64 0, .int .i64 0, .int .i64 0] 3) = w4 at *
  have U4 := Lib.hid (U3.out.then v3'); have A4 := Lib.hid (A3.out.upd v3' (fun k _ => noB k))
  refine (Best_any _ [0, 0, 0] w4 b3).mono ?_
  rw [k_b.1, k_b.2.1, k_b.2.2]
  rintro e w5 ⟨rfl, u5⟩
  have U5 := Lib.hid (U4.out.then u5); have A5 := Lib.hid (A4.out.upd u5 (fun k _ => noB k))
  clear b3 v3' u5 U3 A3 U4 A4
  go_wp2_with fail
  refine (Order_any _ [] w5 (Ints.nil w5)).mono ?_
  rw [k_o.1, k_o.2.1, k_o.2.2]
  rintro e w6 ⟨rfl, u6⟩
  have U6 := Lib.hid (U5.out.then u6); have A6 := Lib.hid (A5.out.upd u6 (fun k _ => noB k))
  clear u6 U5 A5
  go_wp2_with fail
  refine (wbytes_any w.heap.size kL2 v3 w6 A6.out (by decide)).mono ?_
  rintro e w7 ⟨s7, rfl, r7, u7, n7⟩
  rw [k_z] at r7
  have R7 := Lib.hid r7.bytes; have U7 := Lib.hid (U6.out.then u7); have A7 := Lib.hid (A6.out.upd u7 (fun k _ => noB k)); clear r7 u7 n7 U6 A6
  go_wp2_with fail
  refine (wlen_some w.heap.size _ w7 A7.out.len).mono ?_
  rintro e w7' ⟨rfl, rfl⟩
  rw [show ((kL2.length : Nat) : Int) = 61 by decide]
  go_wp2_with fail
  refine (open_any s7 kZ 61 w7 R7.out (by decide)).mono ?_
  intro e w8 hr
  rcases hr with ⟨h, _⟩ | ⟨_, h, _⟩ | ⟨_, _, p, sv, rfl, hp, hR, nv, hs, u8⟩
  · exact absurd h (by decide)
  · exact absurd h (by decide)
  have R8 := Lib.hid (show RAt w8 p sv kZ 61 0 from hR); have S8 := Lib.hid (fun (_ : kZ ≠ ([] : List Nat)) => hs)
  have U8 := Lib.hid (u8 : Upd NoB w7 w8); clear hR hs nv u8
  go_wp2_with fail
  refine (Get_any p sv kZ 61 0 1 w8 R8.out S8.out).mono ?_
  rw [k_g1]
  intro e w9 hr
  obtain ⟨rfl, r9, u9⟩ := hr.step U8.out hp
  have R9 := Lib.hid (show RAt w9 p sv kZ 61 4 from r9); have U9 := Lib.hid u9; clear r9 u9 hr R8 U8
  go_wp2_with fail
  refine (Get_any p sv kZ 61 4 0 w9 R9.out S8.out).mono ?_
  rw [k_g2]
  intro e w10 hr
  obtain ⟨rfl, r10, u10⟩ := hr.step U9.out hp
  have U10 := Lib.hid (U7.out.then u10); have A10 := Lib.hid (A7.out.upd u10 (fun k _ => noB k)); clear r10 u10 hr R9 U9 U7 A7 S8 R7
  go_wp2_with fail
  refine (wlen_some w.heap.size _ w10 A10.out.len).mono ?_
  rintro e w10' ⟨rfl, rfl⟩
  rw [show ((kL2.length : Nat) : Int) = 61 by decide]
  go_wp2_with fail
  refine (wbytes_any w.heap.size kL2 v3 w10 A10.out (by decide)).mono ?_
  rintro e w11 ⟨s11, rfl, r11, u11, n11⟩
  rw [k_z] at r11
  obtain ⟨a11, c11, rfl⟩ := row8_slice r11
  have U11 := Lib.hid (U10.out.then u11); have A11 := Lib.hid (A10.out.upd u11 (fun k _ => noB k)); clear r11 u11 n11 U10 A10
  rw [show kZ.length = 8 by decide]
  go_wp2_with fail
  refine (wbytes_any w.heap.size kL2 v3 w11 A11.out (by decide)).mono ?_
  rintro e w12 ⟨s12, rfl, r12, u12, n12⟩
  rw [k_z] at r12
  obtain ⟨g12, c12, rfl⟩ := row_slice r12.1 (by decide)
  have h8 : 8 ≤ c12 := row_cap r12.1
  have h1 : 1 ≤ c12 := by omega
  have R12 := Lib.hid (bytes_one r12.bytes : Bytes w12 (.slice (some ⟨g12, 0, none⟩) 1 c12) [48]); have U12 := Lib.hid (U11.out.then u12); clear r12 u12 n12 U11 A11
  rw [show kZ.length = 8 by decide]
  go_wp2_with fail
  have b13 := (lit8 w12 [48] (all255 (by decide)) (by decide)).bytes
  have v13 : Upd NoB w12 (w12.alloc (.cells (u8s [48]).toArray 5)) := (Upd.refl _ _).alloc _
  change Calls _ _ _ (w12.alloc (.cells (u8s [48]).toArray 5)) _
  generalize w12.alloc (.cells (u8s [48]).toArray 5) = w13 at *
  refine (same_any _ _ [48] [48] w13 (bytes_later R12.out v13) b13 (by decide)).mono ?_
  rintro e w14 ⟨rfl, n14, rfl⟩
  have U14 := Lib.hid (upd_drewN (U12.out.trans v13 (fun k _ h => h)) n14 : Upd NoB w (w13.drewN n14))
  clear R12 b13 v13 U12
  have s14 : sameB [48] [48] = true := by decide
  rw [s14]
  go_wp2
  go_ret
  exact ⟨rfl, U14.out⟩
end Go.Proofs.Ytmdladcfckoglaa
