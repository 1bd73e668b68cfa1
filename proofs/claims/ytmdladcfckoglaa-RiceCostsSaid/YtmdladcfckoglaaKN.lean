/- rice: the layouts of a list, one after the other -/
import Derived.Test.YtmdladcfckoglaaKM
namespace Go.Proofs.Ytmdladcfckoglaa
open Go.RowKit Go.Shelf
attribute [local go_sem] Oper.semAt_some

/-- the item that layouts yields: an order that the list can have, and a slice -/
abbrev LI (n : Nat) := { q : Nat × Option Addr × Nat × Nat // q.1 < 4 ∧ canB n q.1 = true }
abbrev encL (xs : List Int) (x : LI xs.length) : Array Value := #[.agg #[.int .i64 (x.1.1 : Nat), .slice x.1.2.1 x.1.2.2.1 x.1.2.2.2, .int .i64 (whole xs x.1.1 : Nat)]]
def ordsTo (n k : Nat) : List Nat := (List.range k).filter fun p => canB n p
theorem ordsTo_yes {n k : Nat} (h : canB n k = true) : ordsTo n (k + 1) = ordsTo n k ++ [k] := by simp [ordsTo, List.range_succ, List.filter_append, h]
theorem ordsTo_no {n k : Nat} (h : canB n k = false) : ordsTo n (k + 1) = ordsTo n k := by simp [ordsTo, List.range_succ, List.filter_append, h]
theorem ordsTo_len (n k : Nat) : (ordsTo n k).length ≤ k := by
  have := List.length_filter_le (fun p => canB n p) (List.range k)
  simpa [ordsTo] using this
theorem ordsTo_pre (n k d : Nat) : ordsTo n k <+: ordsTo n (k + d) := by
  induction d with
  | zero => exact List.prefix_refl _
  | succ d ih =>
    cases h : canB n (k + d) with
    | true => rw [← Nat.add_assoc, ordsTo_yes h]; exact ih.trans (List.prefix_append _ _)
    | false => rw [← Nat.add_assoc, ordsTo_no h]; exact ih
theorem layouts_any (xa : Option Addr) (L cap : Nat) (w : World) :
    Calls Try.prog 90 #[.slice xa L cap] w fun e w' => e = .returned (.func (.func 105) #[] #[.pointer (some ⟨w.heap.size, 0, none⟩)]) ∧ w' = w.alloc (.cells #[.slice xa L cap] 27) := by
  go_enter Try.func90, Try.ntmps90
  go_wp2
  go_ret
  exact ⟨rfl, rfl⟩
theorem keepD_lt {D : Nat → Prop} {A B : World} (h : KeepD D A B) (hl : ∀ k, D k → k < A.heap.size) : ∀ k, D k → k < B.heap.size := fun k hk => by
  have e := h k hk
  rw [Array.getElem?_eq_getElem (hl k hk)] at e
  exact (Array.getElem?_eq_some_iff.1 e).1
set_option maxRecDepth 100000 in
set_option maxHeartbeats 2000000 in
theorem layouts1_in (l B : Nat) (xa : Option Addr) (cap : Nat) (xs : List Int) (hn : NumL xs)
    (J Jx : List (LI xs.length) → World → Prop) (D : Nat → Prop) (hD : D B)
    (hY : ∀ pre x W, J pre W → pre.length < 4 → YieldAt Fence.wide 0 Try.prog l (encL xs x) W fun e W' =>
      (e = .returned (.bool true) ∧ J (pre ++ [x]) W' ∧ KeepD D W W') ∨ (e = .returned (.bool false) ∧ Jx (pre ++ [x]) W'))
    (W : World) (hA : AbidesFrom W.heap.size J) (hDl : ∀ k, D k → k < W.heap.size) (hx : ∀ W', KeepD D W W' → Ints W' (.slice xa xs.length cap) xs) (hb : W.cell? ⟨B, 0, none⟩ = some (.slice xa xs.length cap)) (h0 : J [] W) :
    CallsIn Fence.wide 1 Try.prog 105 #[.func (.yield l) #[] #[], .pointer (some ⟨B, 0, none⟩)] W fun e W' => (∃ v, e = .returned v) ∧
      ((∃ ys : List (LI xs.length), ys.map (fun x => x.1.1) = ordsTo xs.length 4 ∧ J ys W') ∨ (∃ pre : List (LI xs.length), pre.map (fun x => x.1.1) <+: ordsTo xs.length 4 ∧ Jx pre W')) := by
  refine callsIn_of_wp Try.func105 rfl trivial ?_ rfl
  simp only [Try.ntmps105, List.size_toArray, List.length_cons, List.length_nil, Nat.reduceAdd, Nat.reduceSub, Array.replicate_succ, Array.replicate_zero, List.push_toArray, List.append_toArray, List.nil_append, List.cons_append]
  have HY := Lib.hid @hY; clear hY
  have HA := Lib.hid hA; have HD := Lib.hid hDl; have HX := Lib.hid hx; have HN := Lib.hid hn
  have hl := hn.1
  clear hA hDl hx hn
  gi_wp2
  gi_loopw [4] (fun i wr => ∃ (k : Nat) (ys : List (LI xs.length)), k ≤ 4 ∧ i = .int .i64 k ∧ ys.map (fun x => x.1.1) = ordsTo xs.length k ∧ J ys wr ∧ KeepD D W wr) (fun i _ => 4 - (intOf i).toNat)
  case atStart => exact ⟨0, [], Nat.zero_le _, rfl, rfl, h0, KeepD.refl _ _⟩
  case round =>
    obtain ⟨k, ys, hk, rfl, hys, hJs, hkd⟩ := hrel
    have ec : wr.cell? ⟨B, 0, none⟩ = some (.slice xa xs.length cap) := (hkd.cell (p := ⟨B, 0, none⟩) hD).trans hb
    by_cases hlt : k < 4
    · have hl4 : ys.length < 4 := by
        have h1 := congrArg List.length hys
        have h2 := ordsTo_len xs.length k
        simp at h1
        omega
      have HC := Lib.hid (fun w => canHave_any xs.length k w hl (by omega))
      cases hc : canB xs.length k with
      | false =>
        have Hys := Lib.hid (hys.trans (ordsTo_no hc).symm)
        have Hc := Lib.hid hc; have HJs := Lib.hid hJs; have Hkd := Lib.hid hkd
        clear hys hc hJs hkd hl4
        gi_wp2
        refine ⟨trivial, ?_⟩
        (with_reducible refine ((callsIn_wide.2 (HC.out wr))).mono ?_)
        rintro e w2 ⟨rfl, rfl⟩
        rw [Hc.out]
        gi_wp2
        refine ⟨trivial, ?_⟩
        gi_wp2
        refine ⟨(fun f hf => by cases hf), ?_⟩
        gi_wp2
        go_roundw
        case rel => exact ⟨k + 1, _, by omega, by go_num, Hys.out, HJs.out, Hkd.out⟩
        case measure => simp [intOf]; omega
      | true =>
        have Hys := Lib.hid hys
        have Hc := Lib.hid hc
        have HLW := Lib.hid (layoutWith_any _ xs k wr (HX.out wr hkd) HN.out (by omega))
        have HJs := Lib.hid hJs; have Hkd := Lib.hid hkd
        clear hys hc hJs hkd
        gi_wp2
        refine ⟨trivial, ?_⟩
        (with_reducible refine ((callsIn_wide.2 (HC.out wr))).mono ?_)
        rintro e w2 ⟨rfl, rfl⟩
        rw [Hc.out]
        gi_wp2
        refine ⟨trivial, ?_⟩
        (with_reducible refine ((callsIn_wide.2 HLW.out)).mono ?_)
        rintro e w2 ⟨v, rfl, hrow, u2⟩
        obtain ⟨va, vc, rfl⟩ := row_form hrow
        have hJ2 := HA.out ys wr w2 none HJs.out ⟨u2.os, u2.tape, u2.output, u2.size, fun k hk _ => u2.block k hk (noB k)⟩ (fun r e => by cases e)
        obtain ⟨fn, tmps, assign, body, hy0, hR⟩ := HY.out ys ⟨(k, va, 2 ^ k, vc), hlt, Hc.out⟩ w2 hJ2 hl4
        have hnext : (ys ++ [(⟨(k, va, 2 ^ k, vc), hlt, Hc.out⟩ : LI xs.length)]).map (fun x => x.1.1) = ordsTo xs.length (k + 1) := by rw [List.map_append, Hys.out, ordsTo_yes Hc.out]; rfl
        have Hnext := Lib.hid hnext; clear hnext
        have Hk2 := Lib.hid (Hkd.out.trans (u2.keepD (fun j hj => ⟨keepD_lt Hkd.out HD.out j hj, noB j⟩)))
        simp only [encL] at hy0
        generalize whole xs k = c at *
        generalize 2 ^ k = M at *
        clear hrow u2 hJ2 hl4
        gi_wp2
        refine hR.mono ?_
        rintro e W3 (⟨rfl, hJ3, hk3⟩ | ⟨rfl, hJx3⟩)
        · gi_wp2
          go_roundw
          case rel => exact ⟨k + 1, _, by omega, by go_num, Hnext.out, hJ3, Hk2.out.trans hk3⟩
          case measure => simp [intOf]; omega
        · gi_wp2
          refine bodyPost_ret (results_none rfl _ _ _) rfl ?_
          refine ⟨⟨_, rfl⟩, .inr ⟨_, ?_, hJx3⟩⟩
          rw [Hnext.out]
          obtain ⟨d, hd⟩ := Nat.exists_eq_add_of_le (show k + 1 ≤ 4 by omega)
          rw [hd]
          exact ordsTo_pre _ _ _
    · obtain rfl : k = 4 := by omega
      have Hys := Lib.hid hys; clear hys
      gi_wp2
      go_end0
      exact ⟨⟨_, rfl⟩, .inl ⟨_, Hys.out, hJs⟩⟩

def layD (B : Nat) (xa : Option Addr) (xs : List Int) : Nat → Prop := fun k => k = B ∨ (xs ≠ [] ∧ xa.map Addr.block = some k)
theorem ints_keepD {A B : World} {xa : Option Addr} {n cap : Nat} {xs : List Int} {D : Nat → Prop} (h : Ints A (.slice xa n cap) xs) (k : KeepD D A B) (hD : xs ≠ [] → ∀ j, xa.map Addr.block = some j → D j) : Ints B (.slice xa n cap) xs := by
  obtain ⟨hb, a', cap', e, hc, h3⟩ := h
  cases e
  refine ⟨hb, _, _, rfl, hc, ?_⟩
  rcases h3 with h3 | ⟨b, off, rfl, h3⟩
  · exact .inl h3
  · refine .inr ⟨b, off, rfl, fun j x hx => (k.cell (hD (by rintro rfl; simp at hx) b rfl)).trans (h3 j x hx)⟩
theorem layouts1_seq (B : Nat) (xa : Option Addr) (cap : Nat) (xs : List Int) (w : World) (hn : NumL xs) (hx : Ints w (.slice xa xs.length cap) xs) (hb : w.cell? ⟨B, 0, none⟩ = some (.slice xa xs.length cap)) (hB : B < w.heap.size) :
    SeqStopsK Fence.wide 1 Try.prog 105 #[.pointer (some ⟨B, 0, none⟩)] (encL xs) (KeepD (layD B xa xs)) (fun ys => ys.map (fun x => x.1.1) = ordsTo xs.length 4) (fun pre => pre.map (fun x => x.1.1) <+: ordsTo xs.length 4) 4 w := fun l J Jx W hW hJ _ hY h0 => by
  have hlt : ∀ k, layD B xa xs k → k < w.heap.size := fun k hk => by
    rcases hk with rfl | ⟨hne, hk⟩
    · exact hB
    · refine hx.lt hne k ?_
      cases xa with
      | none => simp at hk
      | some a => simpa [Value.ownBlock] using hk
  have hk : KeepD (layD B xa xs) w W := fun k hk => hW.block k (hlt k hk)
  exact layouts1_in l B xa cap xs hn J Jx (layD B xa xs) (.inl rfl) hY W hJ (fun k hd => Nat.lt_of_lt_of_le (hlt k hd) hW.size)
    (fun W' h' => ints_keepD hx (hk.trans h') (fun hne j hj => .inr ⟨hne, hj⟩)) ((hk.cell (p := ⟨B, 0, none⟩) (.inl rfl)).trans hb) h0
/-- the first one of a list that makes f least -/
def amL (f : Nat → Nat) (l : List Nat) : Option Nat := l.foldl (fun o x => match o with | none => some x | some b => if f x < f b then some x else some b) none
theorem amL_snoc (f : Nat → Nat) (l : List Nat) (x : Nat) : amL f (l ++ [x]) = match amL f l with | none => some x | some b => if f x < f b then some x else some b := by simp [amL, List.foldl_append]
theorem amL_none (f : Nat → Nat) (l : List Nat) : amL f l = none ↔ l = [] := by
  constructor
  · intro h
    rcases List.eq_nil_or_concat l with rfl | ⟨l', x, rfl⟩
    · rfl
    · rw [List.concat_eq_append, amL_snoc] at h
      split at h
      · cases h
      · split at h <;> cases h
  · rintro rfl; rfl
theorem amL_ords (xs : List Int) : amL (whole xs) (ordsTo xs.length 4) = some (ord xs) := by
  have h0 : canB xs.length 0 = true := by simp [canB]
  have e : ∀ p, p < 4 → amL (whole xs) (ordsTo xs.length (p + 1)) = some (omin xs p) := by
    intro p
    induction p with
    | zero => intro _; rw [ordsTo_yes h0]; rfl
    | succ p ih =>
      intro hp
      have ih := ih (by omega)
      cases hc : canB xs.length (p + 1) with
      | true =>
        rw [ordsTo_yes hc, amL_snoc, ih]
        simp only [omin, hc, true_and]
        split <;> rfl
      | false =>
        rw [ordsTo_no hc, ih, omin, if_neg (by rw [hc]; simp)]
  exact e 3 (by omega)
end Go.Proofs.Ytmdladcfckoglaa
