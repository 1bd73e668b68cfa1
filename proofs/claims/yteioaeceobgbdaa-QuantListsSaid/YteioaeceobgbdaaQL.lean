/- quant: the losses, one after the other -/
import Derived.Test.YteioaeceobgbdaaQK
import Derived.Test.YteioaeceobgbdaaRT
namespace Go.Proofs.Yteioaeceobgbdaa
open Go.RowKit Go.Shelf
attribute [local go_sem] Oper.semAt_some

def loN (s : Nat) (c : Int) : Int := (c - vlN s (qtN s c)) * (c - vlN s (qtN s c))
theorem sq_bd {d : Int} (h : -2097152 ≤ d ∧ d ≤ 2097152) : 0 ≤ d * d ∧ d * d ≤ 4398046511104 := by
  have h1 := mulB h h
  have h2 : 0 ≤ d * d := by
    rcases Int.le_total 0 d with h | h
    · exact Int.mul_nonneg h h
    · exact Int.mul_nonneg_of_nonpos_of_nonpos h h
  exact ⟨h2, by omega⟩
theorem loN_bd {s : Nat} {c : Int} (hs : s ≤ 95) (hc : 0 ≤ c ∧ c ≤ 2097152) : 0 ≤ loN s c ∧ loN s c ≤ 4398046511104 := by
  have := vlN_in hs (qtN_le s c)
  exact sq_bd (by omega)
abbrev Ls := { v : Int // 0 ≤ v ∧ v ≤ 4398046511104 }
abbrev encLs (x : Ls) : Array Value := #[.int .i64 x.1]
theorem Memo.kpC {R : Nat → Prop} {A B : World} {b : Nat} (h : Memo A b) (k : KpC R A B) (hR : ¬ R b) : Memo B b := by
  obtain ⟨fs, h1, h2, h3⟩ := h
  exact ⟨fs, k.2 _ _ _ _ hR h1, h2, h3⟩
theorem KpC.mono {R R' : Nat → Prop} {A B : World} (h : KpC R A B) (hr : ∀ k, R k → R' k) : KpC R' A B := ⟨h.1, fun k c t f hk => h.2 k c t f (fun e => hk (hr k e))⟩
theorem map_take {cs : List Int} {k : Nat} {c : Int} (f : Int → Int) (h : cs[k]? = some c) : (cs.take (k + 1)).map f = (cs.take k).map f ++ [f c] := by
  rw [List.take_add_one, h]; simp
theorem losses_any (sc t : Int) (pa : Option Addr) (a : Option Addr) (n c : Nat) (w : World) : Calls Try.prog 59 #[.agg #[.int .i64 sc, .int .i64 t, .pointer pa], .slice a n c] w fun e w' =>
    e = .returned (.func (.func 100) #[] #[.pointer (some ⟨w.heap.size + 1, 0, none⟩), .pointer (some ⟨w.heap.size, 0, none⟩)]) ∧ w' = (w.alloc (.cells #[.int .i64 sc, .int .i64 t, .pointer pa] 57)).alloc (.cells #[.slice a n c] 28) := by
  go_enter Try.func59, Try.ntmps59
  go_wp2
  go_ret
  exact ⟨rfl, rfl⟩
set_option maxRecDepth 100000 in
set_option maxHeartbeats 4000000 in
theorem losses1_in (l B1 B2 b s : Nat) (sc : Int) (sv : Value) (cs : List Int) (hs : s ≤ 95) (hcs : ∀ c ∈ cs, 0 ≤ c ∧ c ≤ 2097152) (hlen : cs.length ≤ 128)
    (J Jx : List Ls → World → Prop) (R : Nat → Prop) (hR1 : ¬ R B1) (hR2 : ¬ R B2) (hRb : ¬ R b) (hRs : cs ≠ [] → ∀ k, sv.ownBlock = some k → ¬ (R k ∨ k = b)) (n1 : B1 ≠ b) (n2 : B2 ≠ b)
    (hJT : ∀ q A A', J q A → Upd (fun k => k = b) A A' → Memo A' b → J q A')
    (hY : ∀ pre x V, J pre V → pre.length < cs.length → YieldAt Fence.wide 0 Try.prog l (encLs x) V fun e V' => (e = .returned (.bool true) ∧ J (pre ++ [x]) V' ∧ KpC R V V') ∨ (e = .returned (.bool false) ∧ Jx (pre ++ [x]) V'))
    (W : World) (hb1 : W.heap[B1]? = some (.cells #[.int .i64 sc, .int .i64 (stepN s : Nat), .pointer (some ⟨b, 0, none⟩)] 57 (0, 0))) (hb2 : W.heap[B2]? = some (.cells #[sv] 28 (0, 0))) (hm : Memo W b) (hx : Ints W sv cs) (h0 : J [] W) :
    CallsIn Fence.wide 1 Try.prog 100 #[.func (.yield l) #[] #[], .pointer (some ⟨B2, 0, none⟩), .pointer (some ⟨B1, 0, none⟩)] W fun e W' => (∃ v, e = .returned v) ∧
      ((∃ ys : List Ls, ys.map Subtype.val = cs.map (loN s) ∧ J ys W') ∨ (∃ pre : List Ls, (∃ k, pre.map Subtype.val = (cs.take k).map (loN s)) ∧ Jx pre W')) := by
  refine callsIn_of_wp Try.func100 rfl trivial ?_ rfl
  simp only [Try.ntmps100, List.size_toArray, List.length_cons, List.length_nil, Nat.reduceAdd, Nat.reduceSub, Array.replicate_succ, Array.replicate_zero, List.push_toArray, List.append_toArray, List.nil_append, List.cons_append]
  have HY := Lib.hid @hY; clear hY
  have HJT := Lib.hid hJT; clear hJT
  obtain ⟨a, cap, rfl⟩ := hx.form
  have HX := Lib.hid (fun W' (k : KpC (fun k => R k ∨ k = b) W W') => hx.kpC k hRs)
  have HB1 := Lib.hid (fun W' (k : KpC (fun k => R k ∨ k = b) W W') => k.2 _ _ _ _ (fun h => h.elim hR1 n1) hb1)
  have HB2 := Lib.hid (fun W' (k : KpC (fun k => R k ∨ k = b) W W') => k.2 _ _ _ _ (fun h => h.elim hR2 n2) hb2)
  have HQ := Lib.hid (fun (k : Nat) (c : Int) (hc : cs[k]? = some c) W (h : Memo W b) => quantum_any sc s b c W h hs (hcs c (List.mem_of_getElem? hc)))
  have HV := Lib.hid (fun (q : Nat) (hq : q ≤ 1023) W (h : Memo W b) => value_any sc s b q W h hs hq)
  have HI := Lib.hid (fun (q : Nat) (hq : q ≤ 1023) => vlN_in hs hq)
  have HC := Lib.hid (fun (k : Nat) (c : Int) (hc : cs[k]? = some c) => hcs c (List.mem_of_getElem? hc))
  have HT := Lib.hid (fun k c (h : cs[k]? = some c) => map_take (loN s) h)
  have HE := Lib.hid (show (cs.take cs.length).map (loN s) = cs.map (loN s) by rw [List.take_length])
  have HLo := Lib.hid (fun c => (show loN s c = (c - vlN s (qtN s c)) * (c - vlN s (qtN s c)) from rfl))
  have H0 := Lib.hid h0; have HM := Lib.hid hm
  have d2 : W.cell? ⟨B2, 0, none⟩ = some (.slice a cs.length cap) := blk_cell hb2 0
  obtain ⟨L, hL⟩ : ∃ L, cs.length = L := ⟨_, rfl⟩
  have HL := Lib.hid hL
  have HRb := Lib.hid hRb
  have HN := Lib.hid (And.intro n1 n2)
  rw [hL] at hlen HE HX HB2 HY d2
  clear hL hx hb1 hb2 hm h0 hcs hs hR1 hR2 hRb hRs n1 n2
  gi_wp2
  gi_loopw [9] (fun i wr => ∃ (k : Nat) (ys : List Ls), k ≤ L ∧ i = .int .i64 k ∧ ys.length = k ∧ ys.map Subtype.val = (cs.take k).map (loN s) ∧ J ys wr ∧ KpC (fun k => R k ∨ k = b) W wr ∧ Memo wr b) (fun i _ => L - (intOf i).toNat)
  case atStart => exact ⟨0, [], Nat.zero_le _, rfl, rfl, rfl, H0.out, KpC.refl _ _, HM.out⟩
  case round =>
    obtain ⟨k, ys, hk, rfl, hyl, hys, hJs, hkd, hMe⟩ := hrel
    have Hys := Lib.hid hys; have HJs := Lib.hid hJs; have Hkd := Lib.hid hkd; have HMe := Lib.hid hMe; have Hyl := Lib.hid hyl
    by_cases hlt : k < L
    · obtain ⟨c, hc⟩ : ∃ c, cs[k]? = some c := ⟨_, List.getElem?_eq_getElem (by rw [HL.out]; exact hlt)⟩
      obtain ⟨bb, off, rfl, c0⟩ := (HX.out wr hkd).cellAt hc
      have ht1 := HB1.out wr hkd
      obtain ⟨⟨e0, e1, e2⟩, _, _, _⟩ := cells3 ht1
      have HQc := Lib.hid (HQ.out k c hc)
      obtain ⟨hc0, hc1⟩ := HC.out k c hc
      have HTc := Lib.hid (HT.out k c hc)
      have HVc := Lib.hid (HV.out (qtN s c) (qtN_le s c))
      obtain ⟨v0, v1⟩ := HI.out (qtN s c) (qtN_le s c)
      have HLc := Lib.hid (HLo.out c)
      generalize qtN s c = q at *
      generalize vlN s q = v at *
      generalize loN s c = y at *
      generalize stepN s = t at *
      obtain ⟨d, hd⟩ : ∃ d, c - v = d := ⟨_, rfl⟩
      have z1 : wrap64 (c - v) = d := by rw [hd]; exact IntWalk.wrap64_in _ (by omega)
      have z2 : IntKind.i64.wrap (c - v) = d := by rw [hd]; exact IntWalk.i64_in _ (by clear z1; omega)
      obtain ⟨s0, s1⟩ := sq_bd (d := d) (by clear z1 z2; omega)
      rw [hd] at HLc
      have hdd := HLc.out.symm
      rw [hdd] at s0 s1
      have z3 : wrap64 (d * d) = y := by rw [hdd]; exact IntWalk.wrap64_in _ (by clear z1 z2 hdd; omega)
      have z4 : IntKind.i64.wrap (d * d) = y := by rw [hdd]; exact IntWalk.i64_in _ (by clear z1 z2 z3 hdd; omega)
      have HS := Lib.hid (And.intro s0 s1)
      have HS2 := Lib.hid (show ∀ Z : World, Upd (fun k => k = b) wr Z → Z.cell? ⟨B1, 0, none⟩ = some (.int .i64 sc) ∧ Z.cell? ⟨B1, 1, none⟩ = some (.int .i64 (t : Nat)) ∧ Z.cell? ⟨B1, 2, none⟩ = some (.pointer (some ⟨b, 0, none⟩)) from fun Z u => ⟨u.cell e0 HN.out.1, u.cell e1 HN.out.1, u.cell e2 HN.out.1⟩)
      have ud : Upd (fun k => k = b) wr wr.drew := (Upd.refl _ _).drew
      have UD := Lib.hid ud
      have MD := Lib.hid (show Memo wr.drew b from hMe.later (Upd.refl NoB wr).drew)
      have HYk := Lib.hid (fun V hv => HY.out ys ⟨y, HS.out⟩ V hv (by rw [Hyl.out]; exact hlt))
      clear hc hd hdd s0 s1 v0 v1 hc0 hc1 e0 e1 e2 ht1 hkd hMe hJs hys hyl ud
      obtain ⟨e0, e1, e2⟩ := HS2.out _ UD.out
      gi_wp2
      refine wpIn_wide.2 ?_
      go_region_held_law (fun Z => Z.cell? ⟨B1, 0, none⟩ = some (.int .i64 sc) ∧ Z.cell? ⟨B1, 1, none⟩ = some (.int .i64 (t : Nat)) ∧ Z.cell? ⟨B1, 2, none⟩ = some (.pointer (some ⟨b, 0, none⟩))) (first | exact ⟨e0, e1, e2⟩ | exact HS2.out _ U4.out | exact HS2.out _ U3.out) (first
        | (go_at_call 50; (with_reducible refine (HQc.out _ MD.out).mono ?_); rintro e w3 ⟨rfl, M3, u3⟩; have U3 := Lib.hid (UD.out.trans u3 (fun _ _ h => h)); have M3' := Lib.hid M3; clear M3 u3)
        | (go_at_call 47; (with_reducible refine (HVc.out _ M3'.out).mono ?_); rintro e w4 ⟨rfl, M4, u4⟩; have U4 := Lib.hid (U3.out.trans u4 (fun _ _ h => h)); have M4 := Lib.hid M4; clear u4))
      all_goals
        have hJ2 := HJT.out ys wr w4 HJs.out U4.out M4.out
        obtain ⟨fn, tmps, assign, body, hy0, hR⟩ := HYk.out w4 hJ2
        simp only [encLs] at hy0
        have HK4 := Lib.hid (Hkd.out.trans (U4.out.kpC (R := fun k => R k ∨ k = b) (fun k h _ => .inr h)))
        clear hJ2 e0 e1 e2
        gi_wp2
        refine hR.mono ?_
        rintro e W3 (⟨rfl, hJ3, hk3⟩ | ⟨rfl, hJx3⟩)
        · gi_wp2
          go_roundw
          case rel => exact ⟨k + 1, ys ++ [⟨y, HS.out⟩], by omega, by go_num, by rw [List.length_append, Hyl.out]; rfl, by rw [List.map_append, Hys.out, HTc.out]; rfl, hJ3, HK4.out.trans (hk3.mono (fun _ h => .inl h)), M4.out.kpC hk3 HRb.out⟩
          case measure => simp [intOf]; omega
        · gi_wp2
          refine bodyPost_ret (results_none rfl _ _ _) rfl ?_
          exact ⟨⟨_, rfl⟩, .inr ⟨ys ++ [⟨y, HS.out⟩], ⟨k + 1, by rw [List.map_append, Hys.out, HTc.out]; rfl⟩, hJx3⟩⟩
    · obtain rfl : k = L := by omega
      have HEs := Lib.hid (Hys.out.trans HE.out)
      clear hys hlt
      gi_wp2
      go_end0
      exact ⟨⟨_, rfl⟩, .inl ⟨ys, HEs.out, hJs⟩⟩
/-- the losses, as a function that steps in the powers' block -/
theorem losses1_seq (B b s : Nat) (sc : Int) (sv : Value) (cs : List Int) (R : Nat → Prop) (w : World) (hs : s ≤ 95) (hcs : ∀ c ∈ cs, 0 ≤ c ∧ c ≤ 2097152) (hlen : cs.length ≤ 128) (hR1 : ¬ R B) (hR2 : ¬ R (B + 1)) (hRb : ¬ R b)
    (hRs : cs ≠ [] → ∀ k, sv.ownBlock = some k → ¬ (R k ∨ k = b)) (n1 : B ≠ b) (n2 : B + 1 ≠ b) (hb1 : w.heap[B]? = some (.cells #[.int .i64 sc, .int .i64 (stepN s : Nat), .pointer (some ⟨b, 0, none⟩)] 57 (0, 0))) (hb2 : w.heap[B + 1]? = some (.cells #[sv] 28 (0, 0))) (hm : Memo w b) (hx : Ints w sv cs) :
    SeqT Fence.wide 1 Try.prog 100 #[.pointer (some ⟨B + 1, 0, none⟩), .pointer (some ⟨B, 0, none⟩)] encLs (KpC R) (fun A A' => Upd (fun k => k = b) A A' ∧ Memo A' b) (fun _ _ _ => True) (fun ys => ys.map Subtype.val = cs.map (loN s)) (fun pre => ∃ k, pre.map Subtype.val = (cs.take k).map (loN s)) cs.length w := fun l J Jx W hW hJ _ hY h0 => by
  have hk : KpC (fun _ => False) w W := ⟨hW.size, fun k c t f _ h => (hW.block k (lt_of_block h)).trans h⟩
  exact losses1_in l B (B + 1) b s sc sv cs hs hcs hlen J Jx R hR1 hR2 hRb hRs n1 n2 (fun q A A' h u m => hJ q A A' h ⟨u, m⟩) (fun pre x V hj hl => hY pre x V hj trivial hl) W (hk.2 _ _ _ _ id hb1) (hk.2 _ _ _ _ id hb2) (hm.kpC hk id) (hx.kpC hk (fun _ _ _ h => h)) h0
end Go.Proofs.Yteioaeceobgbdaa
