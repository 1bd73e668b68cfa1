/- slices.Backward over steps; the orders -/
import Derived.Test.YtpmhioaoniijbaaDoorJI
namespace Go.Proofs.YtpmhioaoniijbaaDoor
open Go.RowKit Go.Shelf
attribute [local go_sem] Oper.semAt_some

def rv (K m : Nat) : List Nat := (List.range m).map fun x => K - 1 - x
theorem rv_length (K m : Nat) : (rv K m).length = m := by simp [rv]
theorem rv_succ (K m : Nat) : rv K (m + 1) = rv K m ++ [K - 1 - m] := by simp [rv, List.range_succ]
theorem rv_prefix (K m d : Nat) : rv K m <+: rv K (m + d) := by
  unfold rv
  rw [List.range_add, List.map_append]
  exact ⟨_, rfl⟩
set_option maxRecDepth 100000 in
set_option maxHeartbeats 1000000 in
theorem bwd1_in (l B g K : Nat) (ss : List Sp) (hlen : ss.length = K) (hK : K ≤ 1000000)
    (J Jx : List (Ix K) → World → Prop) (D : Nat → Prop) (hDB : D B) (hDg : D g)
    (hY : ∀ pre x W, J pre W → pre.length < K → YieldAt Fence.wide 0 Tryd.prog l (encS ss K x) W fun e W' =>
      (e = .returned (.bool true) ∧ J (pre ++ [x]) W' ∧ KeepD D W W') ∨ (e = .returned (.bool false) ∧ Jx (pre ++ [x]) W'))
    (W : World) (hb : W.cell? ⟨B, 0, none⟩ = some (.slice (some ⟨g, 0, none⟩) K K)) (hs : Sps W g ss) (h0 : J [] W) :
    CallsIn Fence.wide 1 Tryd.prog 85 #[.func (.yield l) #[] #[], .pointer (some ⟨B, 0, none⟩)] W fun e W' => (∃ v, e = .returned v) ∧
      ((∃ ys : List (Ix K), ys.map Subtype.val = rv K K ∧ J ys W') ∨ (∃ pre : List (Ix K), pre.map Subtype.val <+: rv K K ∧ Jx pre W')) := by
  refine callsIn_of_wp Tryd.func85 rfl trivial ?_ rfl
  simp only [Tryd.ntmps85, List.size_toArray, List.length_cons, List.length_nil, Nat.reduceAdd, Nat.reduceSub, Array.replicate_succ, Array.replicate_zero, List.push_toArray, List.append_toArray, List.nil_append, List.cons_append]
  have HY := Lib.hid @hY; clear hY
  have HS := Lib.hid hs; clear hs
  gi_wp2
  gi_loopw [3] (fun i wr => ∃ (m : Nat) (ys : List (Ix K)), m ≤ K ∧ i = .int .i64 ((K : Int) - 1 - m) ∧ ys.map Subtype.val = rv K m ∧ J ys wr ∧ KeepD D W wr) (fun i _ => (intOf i + 1).toNat)
  case atStart => exact ⟨0, [], Nat.zero_le _, by go_num, rfl, h0, KeepD.refl _ _⟩
  case round =>
    obtain ⟨m, ys, hm, rfl, hys, hJs, hkd⟩ := hrel
    by_cases hlt : m < K
    · obtain ⟨k, hk⟩ : ∃ k, K - 1 - m = k := ⟨_, rfl⟩
      have hki : (K : Int) - 1 - m = (k : Int) := by omega
      have hkK : k < K := by omega
      have hsp := sps_keepD HS.out hkd hDg
      obtain ⟨q0, q1, q2, q3, q4⟩ := sps_cells hsp (k := k) (by omega)
      have hl : ys.length < K := by
        have := congrArg List.length hys
        simp [rv_length] at this
        omega
      obtain ⟨fn, tmps, assign, body, hy0, hR⟩ := HY.out ys ⟨k, hkK⟩ _ hJs hl
      have hnext : (ys ++ [(⟨k, hkK⟩ : Ix K)]).map Subtype.val = rv K (m + 1) := by rw [List.map_append, hys, rv_succ, hk]; rfl
      have Hnext := Lib.hid hnext; clear hnext
      have Hys := Lib.hid hys; clear hys
      simp only [encS, Sp.val] at hy0
      generalize ss.getD k noSp = s at *
      obtain ⟨q, A, B', i, j⟩ := s
      simp only at *
      have ec : wr.cell? ⟨B, 0, none⟩ = some (.slice (some ⟨g, 0, none⟩) K K) := (hkd.cell (p := ⟨B, 0, none⟩) hDB).trans hb
      have Hkd := Lib.hid hkd
      have Hki := Lib.hid hki
      rw [hki]
      clear hl hsp hkd hki hJs
      gi_wp2
      refine hR.mono ?_
      rintro e W3 (⟨rfl, hJ3, hk3⟩ | ⟨rfl, hJx3⟩)
      · gi_wp2
        go_roundw
        case rel => exact ⟨m + 1, _, by omega, by have := Hki.out; go_num, Hnext.out, hJ3, Hkd.out.trans hk3⟩
        case measure => have := Hki.out; simp [intOf] <;> omega
      · gi_wp2
        refine bodyPost_ret (results_none rfl _ _ _) rfl ?_
        refine ⟨⟨_, rfl⟩, .inr ⟨_, ?_, hJx3⟩⟩
        rw [Hnext.out]
        obtain ⟨d, hd⟩ := Nat.exists_eq_add_of_le (show m + 1 ≤ K by omega)
        have := rv_prefix K (m + 1) d
        rwa [← hd] at this
    · obtain rfl : m = K := by omega
      have Hys := Lib.hid hys; clear hys
      have z : (m : Int) - 1 - m = -1 := by omega
      rw [z]
      gi_wp2
      go_end0
      exact ⟨⟨_, rfl⟩, .inl ⟨_, Hys.out, hJs⟩⟩
theorem bwd_seq (B g K : Nat) (ss : List Sp) (w : World) (hlen : ss.length = K) (hK : K ≤ 1000000) (hb : w.cell? ⟨B, 0, none⟩ = some (.slice (some ⟨g, 0, none⟩) K K)) (hs : Sps w g ss) (hB : B < w.heap.size) (hg : g < w.heap.size) :
    SeqStopsK Fence.wide 1 Tryd.prog 85 #[.pointer (some ⟨B, 0, none⟩)] (encS ss K) (KeepD (stepD B g)) (fun ys => ys.map Subtype.val = rv K K) (fun pre => pre.map Subtype.val <+: rv K K) K w := fun l J Jx W hW _ _ hY h0 => by
  have hk : KeepD (stepD B g) w W := fun k hk => hW.block k (by rcases hk with rfl | rfl <;> omega)
  exact bwd1_in l B g K ss hlen hK J Jx (stepD B g) (.inl rfl) (.inr rfl) hY W ((hk.cell (p := ⟨B, 0, none⟩) (.inl rfl)).trans hb) (sps_keepD hs hk (.inr rfl)) h0
theorem bwd_in (g K : Nat) (w : World) : Calls Tryd.prog 64 #[.slice (some ⟨g, 0, none⟩) K K] w fun e w' =>
    e = .returned (.func (.func 85) #[] #[.pointer (some ⟨w.heap.size, 0, none⟩)]) ∧ w' = w.alloc (.cells #[.slice (some ⟨g, 0, none⟩) K K] 62) := by
  go_enter Tryd.func64, Tryd.ntmps64
  go_wp2
  go_ret
  exact ⟨rfl, rfl⟩

/-! the result of all steps -/
def allT (f : Nat → Int → Int → Int × Int → Int × Int) (ts : List Tn) (xs : List Int) : List Int := ts.foldl (fun ys t => stepL f t.sp ys) xs
theorem stepL_length (f : Nat → Int → Int → Int × Int → Int × Int) (s : Sp) (xs : List Int) : (stepL f s xs).length = xs.length := by unfold stepL; simp
theorem allT_snoc {f : Nat → Int → Int → Int × Int → Int × Int} {ts : List Tn} {xs : List Int} {m : Nat} {t : Tn} (h : ts[m]? = some t) : allT f (ts.take (m + 1)) xs = stepL f t.sp (allT f (ts.take m) xs) := by
  unfold allT
  rw [List.take_add_one, h, List.foldl_append]; rfl
theorem tn_ok {L : Nat} {t : Tn} (h : tnE L t = 0) : SpOk L t.sp ∧ Fit t.sp.A t.sp.B := by
  unfold tnE at h
  by_cases hp : plB L t = true
  · rw [if_pos hp] at h
    have ok := turE_ok h
    unfold plB at hp
    simp only [Bool.and_eq_true, decide_eq_true_eq] at hp
    have a := turA_in (n := t.n) ok.1
    have b := turB_in t.n t.d
    have q := (tur_facts (n := t.n) ok.2.1).2.2.1
    exact ⟨⟨q, a.1, a.2, b.1, b.2, hp.1.1.1, hp.1.1.2, hp.1.2.1, hp.1.2.2, hp.2⟩, tur_fit ok.1⟩
  · rw [if_neg hp] at h; exact absurd h (by decide)
theorem tnsE_ok {L : Nat} : ∀ {ts : List Tn}, tnsE L ts = 0 → ∀ (k : Nat) (t : Tn), ts[k]? = some t → tnE L t = 0
  | [], _, k, t, hk => by simp at hk
  | u :: ts, h, k, t, hk => by
    unfold tnsE at h
    by_cases hu : tnE L u = 0
    · rw [if_pos hu] at h
      cases k with
      | zero => simp at hk; subst hk; exact hu
      | succ k => exact tnsE_ok h k t (by simpa using hk)
    · rw [if_neg hu] at h; exact absurd h hu
theorem stp_ok {M : Int} {xs : List Int} {ts : List Tn} (h : stpE M xs ts = 0) : xs.length ≤ 1024 ∧ ts.length ≤ 4096 ∧ allIn M xs = true ∧ tnsE xs.length ts = 0 := by
  unfold stpE at h
  by_cases h1 : 1024 < xs.length ∨ 4096 < ts.length
  · rw [if_pos h1] at h; exact absurd h (by decide)
  · rw [if_neg h1] at h
    by_cases h2 : allIn M xs = false
    · rw [if_pos h2] at h; exact absurd h (by decide)
    · rw [if_neg h2] at h
      exact ⟨by omega, by omega, by simpa using h2, h⟩
end Go.Proofs.YtpmhioaoniijbaaDoor
