/- energy: Blocks -/
import Derived.Test.YtaplmdkjoijcgaaDoorOP
namespace Go.Proofs.YtaplmdkjoijcgaaDoor
open Go.RowKit Go.Shelf

def bkL (c : List Int) : List (List Int) := (List.range 8).map fun k => (c.drop (16 * k)).take 16
def blE (c : List Int) : Int := if c.length = 128 then (if inB (-2097152) 2097152 c then 0 else 6) else 4
def blS (c : List Int) : List Int := if blE c = 0 then (bkL c).map sqs else []
theorem blE_ok {c : List Int} (h : blE c = 0) : c.length = 128 ∧ CoB c := by
  unfold blE at h
  by_cases h1 : c.length = 128
  · rw [if_pos h1] at h
    refine ⟨h1, coB_of ?_⟩
    cases e : inB (-2097152) 2097152 c with
    | true => rfl
    | false => rw [e] at h; simp at h
  · rw [if_neg h1] at h; cases h
theorem bkL_get {c : List Int} {k : Nat} {xs : List Int} (hl : c.length = 128) (h : (bkL c)[k]? = some xs) : k < 8 ∧ xs = (c.drop (16 * k)).take 16 ∧ xs.length = 16 := by
  have hk := (List.getElem?_eq_some_iff.1 h).1
  unfold bkL at hk h
  rw [List.length_map, List.length_range] at hk
  rw [List.getElem?_map, List.getElem?_range hk] at h
  simp only [Option.map_some, Option.some.injEq] at h
  subst h
  refine ⟨hk, rfl, ?_⟩
  rw [List.length_take, List.length_drop, hl]; omega
theorem bkL_ok {c : List Int} (hl : c.length = 128) (hc : CoB c) {k : Nat} {xs : List Int} (h : (bkL c)[k]? = some xs) : CoB xs ∧ 0 < xs.length ∧ xs.length ≤ 300 := by
  obtain ⟨hk, e, h16⟩ := bkL_get hl h
  refine ⟨fun j x hj => ?_, by omega, by omega⟩
  have hm := List.mem_of_getElem? hj
  rw [e] at hm
  obtain ⟨i, hi⟩ := List.getElem?_of_mem (List.mem_of_mem_drop (List.mem_of_mem_take hm))
  exact hc i x hi
theorem Ints.sub {w : World} {b off n cap : Nat} {xs ys : List Int} (h : Ints w (.slice (some ⟨b, off, none⟩) n cap) xs) (f m c2 : Nat) (hy : (xs.drop f).take m = ys) (hc : ys.length ≤ c2) (hb : ys.length ≤ 1000000) : Ints w (.slice (some ⟨b, off + f, none⟩) ys.length c2) ys := by
  refine ⟨by omega, _, _, rfl, ⟨hc, fun e => by cases e⟩, .inr ⟨b, off + f, rfl, fun j x hx => ?_⟩⟩
  rw [← hy, List.getElem?_take] at hx
  split at hx
  · rw [List.getElem?_drop] at hx
    obtain ⟨b', o', e, hc'⟩ := h.cellAt hx
    cases e
    rw [Nat.add_assoc]; exact hc'
  · cases hx
theorem parts_chunks {w : World} {B : Nat} {v : Value} {ca : Option Addr} {cc : Nat} {c : List Int} (hl : c.length = 128) (hc : Ints w (.slice ca 128 cc) c) (hr : w.ownsRow B 22 1 v 8 ((List.range 8).map fun k => Value.slice (ca.map (·.add (16 * k))) 16 16)) : ∃ a n k, v = .slice a n k ∧ Parts w (.slice a n k) (bkL c) := by
  obtain ⟨b, q, rfl⟩ := row_slice hr (by decide)
  refine ⟨_, _, _, rfl, b, q, rfl, fun k xs hk => ?_⟩
  obtain ⟨hk8, e, h16⟩ := bkL_get hl hk
  obtain ⟨x0, hx0⟩ : ∃ x, c[0]? = some x := ⟨_, List.getElem?_eq_getElem (by omega)⟩
  obtain ⟨b', off, e', _⟩ := hc.cellAt hx0
  subst e'
  have hrk := hr.cellAt k (by omega)
  rw [List.getElem?_map, List.getElem?_range hk8] at hrk
  simp only [Option.map_some, addr_add] at hrk
  rw [h16]
  refine ⟨_, _, hrk, ?_⟩
  have := Ints.sub hc (16 * k) 16 16 e.symm (by omega) (by omega)
  rw [h16] at this
  exact this
set_option maxRecDepth 100000 in
set_option maxHeartbeats 2000000 in
theorem collect_any (B : Nat) (a : Option Addr) (cap : Nat) (w : World) (hcap : 128 ≤ cap) (hb1 : w.cell? ⟨B, 0, none⟩ = some (.slice a 128 cap)) (hb2 : w.cell? ⟨B + 1, 0, none⟩ = some (.int .i64 (16 : Nat))) (hD : B + 1 < w.heap.size) :
    Calls Tryd.prog 81 #[.func (.func 100) #[] #[.pointer (some ⟨B, 0, none⟩), .pointer (some ⟨B + 1, 0, none⟩)]] w fun e w' => ∃ v, e = .returned v ∧ w'.ownsRow w.heap.size 22 1 v 8 ((List.range 8).map fun k => Value.slice (a.map (·.add (16 * k))) 16 16) ∧ Upd NoB w w' := by
  have HS := Lib.hid (appendSeqS_any 100 #[.pointer (some ⟨B, 0, none⟩), .pointer (some ⟨B + 1, 0, none⟩)] (fun k => a.map (·.add (16 * k))) 16 (chunkD B) 0 8 w (enters_of Tryd.func100 (by kernel_rfl) rfl)
    (fun w0 u => chunk1_seq B 1 a 16 128 cap 8 w0 (by decide) (by decide) (by decide) hcap (u.cell hb1 (noB _)) (u.cell hb2 (noB _)) (Nat.lt_of_lt_of_le hD u.size)) (fun k hk => by rcases hk with rfl | rfl <;> omega) (by decide))
  clear hb1 hb2
  go_enter Tryd.func81, Tryd.ntmps81
  go_wp2_with fail
  refine HS.out.mono ?_
  rintro e w1 ⟨v, rfl, r1, u1⟩
  obtain ⟨a1, c1, rfl⟩ := row_form r1
  have R1 := Lib.hid r1; have U1 := Lib.hid u1
  clear r1 u1
  go_wp2_with fail
  go_ret
  exact ⟨_, rfl, R1.out, U1.out⟩
set_option maxRecDepth 100000 in
set_option maxHeartbeats 4000000 in
theorem Blocks_any (cv : Value) (c : List Int) (w : World) (hc : Ints w cv c) : Calls Tryd.prog 45 #[cv] w (EInts w (blS c) (blE c)) := by
  have HA := Lib.hid (areCoef_any cv c w hc)
  obtain ⟨ca, cc, rfl⟩ := hc.form
  by_cases hn : c.length = 128
  · have HE0 := Lib.hid (show blE c = if inB (-2097152) 2097152 c then 0 else 6 from if_pos hn)
    cases hin : inB (-2097152) 2097152 c with
    | false =>
      have HE := Lib.hid (show blE c = 6 by rw [HE0.out, hin]; rfl)
      have HS := Lib.hid (show blS c = [] from if_neg (by rw [HE.out]; decide))
      rw [HE.out, HS.out]
      rw [hin] at HA
      rw [hn] at HA ⊢
      clear hc hn hin
      go_enter Tryd.func45, Tryd.ntmps45
      go_wp2_with fail
      refine HA.out.mono ?_
      rintro e w1 ⟨rfl, u1⟩
      have U1 := Lib.hid u1
      clear u1
      go_wp2_with fail
      go_ret2
      exact ⟨none, 0, 0, rfl, World.ownsRow_nil _ _ _ _, U1.out⟩
    | true =>
      have HE := Lib.hid (show blE c = 0 by rw [HE0.out, hin]; rfl)
      have HS := Lib.hid (show blS c = (bkL c).map sqs from if_pos HE.out)
      have HOk := Lib.hid (fun k xs (hx : (bkL c)[k]? = some xs) => bkL_ok hn (coB_of hin) hx)
      have HLn := Lib.hid (show ((bkL c).map sqs).length = 8 by unfold bkL; simp)
      have HL8 := Lib.hid (show (bkL c).length = 8 by unfold bkL; simp)
      have HCn := Lib.hid hn
      have hcap : 128 ≤ cc := by
        obtain ⟨_, a', c', e, ⟨hcc, _⟩, _⟩ := hc
        injection e with _ _ e3
        rw [hn] at hcc
        omega
      have HC := Lib.hid (show ∀ w', Upd NoB w w' → Ints w' (.slice ca 128 cc) c from fun w' u => by rw [← hn]; exact hc.later u)
      rw [HE.out, HS.out]
      rw [hin] at HA
      rw [hn] at HA ⊢
      clear hc hn hin
      go_enter Tryd.func45, Tryd.ntmps45
      go_wp2_with fail
      refine HA.out.mono ?_
      rintro e w1 ⟨rfl, u1⟩
      have U1 := Lib.hid u1
      clear u1
      go_wp2_with fail
      refine (chunk_any _ 16 w1 (by decide) ⟨_, _, _, rfl⟩).mono ?_
      rintro e w2 ⟨rfl, hw2⟩
      have u2 : Upd NoB w1 w2 := by rw [hw2]; exact ((Upd.refl _ _).alloc _).alloc _
      have b1 : w2.heap[w1.heap.size]? = some (.cells #[.slice ca 128 cc] 22 (0, 0)) := by rw [hw2]; exact ((Upd.refl NoB _).alloc _).heap (heap_alloc_new w1 _) (noB _)
      have b2 : w2.heap[w1.heap.size + 1]? = some (.cells #[.int .i64 (16 : Nat)] 3 (0, 0)) := by
        have s1 : (w1.alloc (.cells #[.slice ca 128 cc] 22)).heap.size = w1.heap.size + 1 := by simp
        rw [hw2, ← s1]; exact heap_alloc_new _ _
      have HCo := Lib.hid (collect_any w1.heap.size ca cc w2 hcap (blk_cell b1 0) (blk_cell b2 0) (lt_of_block b2))
      have U2 := Lib.hid (U1.out.then u2)
      clear u2 b1 b2 hw2
      go_wp2_with fail
      refine HCo.out.mono ?_
      rintro e w3 ⟨v3, rfl, r3, u3⟩
      have U3 := Lib.hid (U2.out.then u3)
      obtain ⟨pa, pn, pc, e, hP⟩ := parts_chunks HCn.out (HC.out w3 U3.out) r3
      cases e
      have HP := Lib.hid hP
      clear r3 u3 hP
      go_wp2_with fail
      refine (eachEn_any _ (bkL c) sqs w3 HP.out (by rw [HL8.out]; decide) (fun k x xa xc w' hx _ ix => (energyOf_any _ x w' ix (HOk.out k x hx).1 (HOk.out k x hx).2.2).mono (by rintro r w'' ⟨rfl, rfl⟩; exact ⟨rfl, Upd.refl _ _⟩))).mono ?_
      rintro e w4 ⟨v4, rfl, r4, u4⟩
      rw [HLn.out] at r4
      obtain ⟨a4, c4, rfl⟩ := row_form r4
      have R4 := Lib.hid (row_base r4 U3.out.size); have U4 := Lib.hid (U3.out.then u4)
      clear r4 u4
      go_wp2_with fail
      go_ret2
      exact ⟨_, _, _, rfl, by rw [HLn.out]; exact R4.out, U4.out⟩
  · have HE := Lib.hid (show blE c = 4 from if_neg hn)
    have HS := Lib.hid (show blS c = [] from if_neg (by rw [HE.out]; decide))
    have t1 : ((c.length : Int) != 128) = true := by rw [bne_iff_ne]; omega
    rw [HE.out, HS.out]
    generalize c.length = n at *
    clear hc hn
    go_enter Tryd.func45, Tryd.ntmps45
    go_wp2_with fail
    go_ret2
    exact ⟨none, 0, 0, rfl, World.ownsRow_nil _ _ _ _, Upd.refl _ _⟩
end Go.Proofs.YtaplmdkjoijcgaaDoor
