/- rice: Put -/
import Derived.Test.YtmdladcfckoglaaKC
namespace Go.Proofs.Ytmdladcfckoglaa
open Go.RowKit Go.Shelf

theorem WPost.none {b : Nat} {v : Value} {w w' : World} {l : List Nat} (h : WAt w b l v) (u : Upd NoB w w') : WPost b v w (l ++ []) w' := by
  rw [List.append_nil]
  exact ⟨v, h.upd u (fun k _ => noB k), u.mono (fun k _ h => h.elim), newOr.refl _ _⟩
theorem VPost.none {b : Nat} {v : Value} {w w' : World} {l : List Nat} (h : VAt w b l v) (u : Upd NoB w w') : VPost b v w (l ++ []) w' := by
  rw [List.append_nil]
  exact ⟨v, h.upd u (fun k _ => noB k), u.mono (fun k _ h => h.elim), newOr.refl _ _⟩
theorem VPost.same {b : Nat} {v : Value} {w w' : World} {l : List Nat} (h : VAt w b l v) (u : Upd NoB w w') : VPost b v w l w' := by have := VPost.none h u; rwa [List.append_nil] at this
theorem VPost.pre {w w1 w' : World} {b : Nat} {v0 : Value} {l : List Nat} (u : Upd NoB w w1) (h : VPost b v0 w1 l w') : VPost b v0 w l w' :=
  h.next (u.mono (fun _ _ h => h.elim)) (newOr.refl _ _)
theorem VRes.ok {b : Nat} {v : Value} {w : World} {l : List Nat} {bad : Prop} {bs : List Nat} {e : Ending} {w' : World} (h : VRes b v w l bad bs e w') (hb : ¬ bad) (hf : l.length + bs.length ≤ 1048576) : e = .returned (.int .i64 0) ∧ VPost b v w (l ++ bs) w' := by
  obtain ⟨r, rfl, ⟨h1, h2, h3⟩ | ⟨h1, h0, h2, h3⟩ | ⟨h1, h0, rfl, h3⟩⟩ := h
  · exact absurd h1 hb
  · omega
  · exact ⟨rfl, h3⟩
theorem VAt.lt {w : World} {b : Nat} {l : List Nat} {v : Value} (h : VAt w b l v) : ∀ k, wfoot b v k → k < w.heap.size := by
  rintro k (rfl | hk)
  · exact lt_of_block h.1
  · rcases h.2.1.1.2 with ⟨rfl, _⟩ | ⟨g, cap, cur, rfl, _, hg, _⟩
    · simp [Value.ownBlock] at hk
    · have : g = k := by simpa [Value.ownBlock] using hk
      subst this
      exact lt_of_block hg
theorem un_len (n : Nat) : (numBits 0 n ++ numBits 1 1).length = n + 1 := by simp [numBits_length]
theorem putBad_not {u k : Nat} (hu : u ≤ 4294967295) (hk : k ≤ 14) : ¬ putBad (wRe u k : Nat) (wWi u k : Nat) := by
  intro h
  refine h ⟨by omega, by have := wWi_le u hk; omega, by omega, ?_⟩
  have := wRe_lt (show u < 4294967296 by omega) k
  rw [Int.toNat_natCast]
  have e : (2 : Int) ^ wWi u k = ((2 ^ wWi u k : Nat) : Int) := by simp
  rw [e]
  omega

theorem hasRoom_any (b : Nat) (l : List Nat) (v : Value) (n : Nat) (w : World) (h : WAt w b l v) (hl : l.length ≤ 1048576) (_hn : n ≤ 1000000000) :
    Calls Try.prog 69 #[.pointer (some ⟨b, 0, none⟩), .int .i64 (n : Int)] w fun e w' => e = .returned (.bool (decide ((n : Int) ≤ 1048576 - (l.length : Int)))) ∧ w = w' := by
  have HL := Lib.hid h.len; clear h
  generalize l.length = L at *
  go_enter Try.func69, Try.ntmps69
  go_wp2_with (go_at_call 28; refine (wlen_some b _ _ HL.out).mono ?_; rintro e w' ⟨rfl, rfl⟩)
  go_ret
  exact ⟨rfl, rfl⟩
set_option maxRecDepth 100000 in
set_option maxHeartbeats 1000000 in
theorem wwrite_any (b : Nat) (l : List Nat) (v : Value) (u k : Nat) (w : World) (h : WAt w b l v) (hf : l.length + wSz u k ≤ 1048576) (hu : u ≤ 4294967295) (hk : k ≤ 14) :
    Calls Try.prog 71 #[.agg #[.int .i64 (wUn u k : Nat), .int .i64 (wRe u k : Nat), .int .i64 (wWi u k : Nat)], .func (.func 72) #[.pointer (some ⟨b, 0, none⟩)] #[], .func (.func 73) #[.pointer (some ⟨b, 0, none⟩)] #[]] w fun e w' =>
      e = .returned (.int .i64 0) ∧ WPost b v w (l ++ wBits u k) w' := by
  have hbad := putBad_not hu hk
  have h24 := wUn_le u k
  have hlen := wBits_length u k
  have hw32 := wWi_le u hk
  unfold wBits at hlen ⊢
  obtain ⟨W, hW⟩ : ∃ W, W = w.alloc (.cells #[.int .i64 (wUn u k : Nat), .int .i64 (wRe u k : Nat), .int .i64 (wWi u k : Nat)] 88) := ⟨_, rfl⟩
  have c0 : W.heap[w.heap.size]? = some (.cells #[.int .i64 (wUn u k : Nat), .int .i64 (wRe u k : Nat), .int .i64 (wWi u k : Nat)] 88 (0, 0)) := by rw [hW]; exact heap_alloc_new w _
  have u0 : Upd NoB w W := by rw [hW]; exact (Upd.refl _ _).alloc _
  have H0 := Lib.hid (h.upd u0 (fun k _ => noB k))
  have hnb : ¬ wfoot b v w.heap.size := fun hh => by have := h.lt _ hh; omega
  have hsz : wSz u k = wUn u k + 1 + wWi u k := rfl
  generalize wUn u k = p at *
  generalize wRe u k = q at *
  generalize wWi u k = r at *
  have hl1 : (l ++ (numBits 0 p ++ numBits 1 1)).length + r ≤ 1048576 := by rw [List.length_append, un_len]; omega
  have HL1 := Lib.hid hl1
  have hl0 : l.length + (numBits 0 p ++ numBits 1 1).length ≤ 1048576 := by rw [un_len]; omega
  have HL0 := Lib.hid hl0
  have hlz : l.length ≤ 1048576 := by omega
  have HLz := Lib.hid hlz
  have Hbad := Lib.hid hbad; have HW := Lib.hid hW; have C0 := Lib.hid c0; have U0 := Lib.hid u0; have Hnb := Lib.hid hnb
  obtain ⟨d0, d1, d2⟩ := cells3 c0
  clear h hf hbad hlen hW c0 u0 hnb hsz hl1 hl0 hlz
  go_enter Try.func71, Try.ntmps71
  go_wp2_with fail
  rw [← HW.out]
  go_wp2_with fail
  refine (unary_any b l v p W H0.out HLz.out).mono ?_
  intro e w2 hr
  obtain ⟨rfl, hp⟩ := hr.ok (fun h => h ⟨by omega, by omega⟩) (by rw [Int.toNat_natCast]; exact HL0.out)
  rw [Int.toNat_natCast] at hp
  obtain ⟨v2, a2, u2, n2⟩ := hp
  have c2 := u2.heap C0.out Hnb.out
  obtain ⟨g0, g1, g2⟩ := cells3 c2
  have A2 := Lib.hid a2; have U2 := Lib.hid u2; have N2 := Lib.hid n2
  clear a2 u2 n2 c2 hr d0 d1 d2
  go_wp2_with fail
  refine (put_any b _ v2 q r w2 A2.out (by have := HL1.out; omega)).mono ?_
  intro e w3 hr
  obtain ⟨rfl, hp⟩ := hr.ok Hbad.out (by rw [Int.toNat_natCast, numBits_length]; exact HL1.out)
  rw [Int.toNat_natCast, List.append_assoc] at hp
  have Hp := Lib.hid (WPost.pre U0.out (WPost.next U2.out N2.out hp))
  clear hp hr
  go_wp2
  go_ret
  exact ⟨rfl, Hp.out⟩
/-- Put: the error, and the bits that are added. -/
def putE (n : Nat) (x k : Int) : Int := if isPar k = false then 1 else if isNum x = false then 6 else if 1048576 < n + wSz (fo x) k.toNat then 2 else 0
def putB (n : Nat) (x k : Int) : List Nat := if putE n x k = 0 then wBits (fo x) k.toNat else []
theorem putB_no {n : Nat} {x k : Int} {e : Int} (h : putE n x k = e) (he : e ≠ 0) : putB n x k = [] := by unfold putB; rw [h, if_neg he]
theorem putE_ok {n : Nat} {x k : Int} (h : putE n x k = 0) : isPar k = true ∧ isNum x = true ∧ n + wSz (fo x) k.toNat ≤ 1048576 := by
  unfold putE at h
  split at h
  · omega
  · split at h
    · omega
    · split at h
      · omega
      · rename_i h1 h2 h3
        exact ⟨by simpa using h1, by simpa using h2, by omega⟩
theorem putB_len {n : Nat} {x k : Int} (hn : n ≤ 1048576) : n + (putB n x k).length ≤ 1048576 := by
  unfold putB
  split
  · rename_i h
    rw [wBits_length]
    exact (putE_ok h).2.2
  · simpa using hn
theorem putB_01 {n : Nat} {x k : Int} : ∀ y ∈ putB n x k, y ≤ 1 := by
  unfold putB
  split
  · exact wBits_01 _ _
  · simp
set_option maxRecDepth 100000 in
set_option maxHeartbeats 1000000 in
theorem Put_any (b : Nat) (l : List Nat) (v : Value) (x k : Int) (w : World) (h : WAt w b l v) (hl : l.length ≤ 1048576) :
    Calls Try.prog 26 #[.pointer (some ⟨b, 0, none⟩), .int .i64 x, .int .i64 k] w fun e w' => e = .returned (.int .i64 (putE l.length x k)) ∧ WPost b v w (l ++ putB l.length x k) w' := by
  cases hk : isPar k with
  | false =>
    have hE : putE l.length x k = 1 := by unfold putE; rw [if_pos hk]
    have HB := Lib.hid (putB_no hE (by decide)); have HE := Lib.hid hE; have H := Lib.hid h; have HK := Lib.hid hk
    clear hE h hk
    rw [HB.out, HE.out]
    go_enter Try.func26, Try.ntmps26
    go_wp2_with (go_at_call 53; refine (isParameter_any _ _).mono ?_; rw [HK.out]; rintro e w' ⟨rfl, rfl⟩)
    go_ret
    exact ⟨rfl, WPost.none H.out (Upd.refl _ _)⟩
  | true =>
  cases hx : isNum x with
  | false =>
    have hE : putE l.length x k = 6 := by unfold putE; rw [if_neg (by simp [hk]), if_pos hx]
    have HB := Lib.hid (putB_no hE (by decide)); have HE := Lib.hid hE; have H := Lib.hid h; have HK := Lib.hid hk; have HX := Lib.hid hx
    clear hE h hk hx
    rw [HB.out, HE.out]
    go_enter Try.func26, Try.ntmps26
    go_wp2_with (first | (go_at_call 53; refine (isParameter_any _ _).mono ?_; rw [HK.out]; rintro e w' ⟨rfl, rfl⟩) | (go_at_call 48; refine (isNumber_any _ _).mono ?_; rw [HX.out]; rintro e w' ⟨rfl, rfl⟩))
    go_ret
    exact ⟨rfl, WPost.none H.out (Upd.refl _ _)⟩
  | true =>
  obtain ⟨k0, k1⟩ := isPar_yes hk
  obtain ⟨k, rfl⟩ := Int.eq_ofNat_of_zero_le k0
  have k14 : k ≤ 14 := by omega
  have hu := fo_lt hx
  have HK := Lib.hid hk; have HX := Lib.hid hx
  have hEq : putE l.length x k = if 1048576 < l.length + wSz (fo x) k then 2 else 0 := by
    unfold putE; rw [if_neg (by simp [hk]), if_neg (by simp [hx]), Int.toNat_natCast]
  have h57 := wSz_le (fo x) k14
  have hsz : wSz (fo x) k = wUn (fo x) k + 1 + wWi (fo x) k := rfl
  have h24 := wUn_le (fo x) k
  have h32 := wWi_le (fo x) k14
  have Hu := Lib.hid (show fo x ≤ 4294967295 by omega)
  have HEq := Lib.hid hEq; have H := Lib.hid h
  have Hsz := Lib.hid hsz
  clear hk hx hu hEq h k0 k1 hsz
  have H1 := Lib.hid (fun w' (u : Upd NoB w w') => wordOf_any (fo x) k w' Hu.out k14)
  have H2 := Lib.hid (fun w' => wbits_any (wUn (fo x) k) (wRe (fo x) k) (wWi (fo x) k) w' h24 h32)
  by_cases hfit : l.length + wSz (fo x) k ≤ 1048576
  · have hE : putE l.length x k = 0 := by rw [HEq.out, if_neg (by omega)]
    have HB := Lib.hid (show putB l.length x k = wBits (fo x) k by unfold putB; rw [if_pos hE, Int.toNat_natCast])
    have HE := Lib.hid hE
    rw [HB.out, HE.out]
    have H3 := Lib.hid (fun w' (u : Upd NoB w w') => wwrite_any b l v (fo x) k w' (H.out.upd u (fun k _ => noB k)) hfit Hu.out k14)
    have ht : decide (((wUn (fo x) k + 1 + wWi (fo x) k : Nat) : Int) ≤ 1048576 - (l.length : Int)) = true := decide_eq_true (by rw [← Hsz.out]; omega)
    have H4 := Lib.hid (fun w' (u : Upd NoB w w') => ht ▸ hasRoom_any b l v (wUn (fo x) k + 1 + wWi (fo x) k) w' (H.out.upd u (fun k _ => noB k)) hl (by omega))
    clear hE hfit ht h57
    generalize wUn (fo x) k = p at *
    generalize wRe (fo x) k = q at *
    generalize wWi (fo x) k = r at *
    go_enter Try.func26, Try.ntmps26
    go_wp2_with (first | (go_at_call 53; refine (isParameter_any _ _).mono ?_; rw [HK.out]; rintro e w' ⟨rfl, rfl⟩) | (go_at_call 48; refine (isNumber_any _ _).mono ?_; rw [HX.out]; rintro e w' ⟨rfl, rfl⟩) | (go_at_call 49; refine (fold_any _ _ HX.out).mono ?_; rintro e w' ⟨rfl, rfl⟩))
    refine (H1.out _ (Upd.refl _ _)).mono ?_
    rintro e w1 ⟨rfl, u1⟩
    have U1 := Lib.hid u1; clear u1
    go_wp2_with fail
    obtain ⟨W2, hW2⟩ : ∃ W2, W2 = w1.alloc (.cells #[.int .i64 (p : Nat), .int .i64 (q : Nat), .int .i64 (r : Nat)] 88) := ⟨_, rfl⟩
    rw [← hW2]
    have c2 : W2.heap[w1.heap.size]? = some (.cells #[.int .i64 (p : Nat), .int .i64 (q : Nat), .int .i64 (r : Nat)] 88 (0, 0)) := by rw [hW2]; exact heap_alloc_new w1 _
    have u2 : Upd NoB w W2 := by rw [hW2]; exact U1.out.alloc _
    clear hW2
    refine (H2.out _).mono ?_
    rintro e w3 ⟨rfl, hw3⟩
    have u3 : Upd NoB W2 w3 := by rw [hw3]; exact (Upd.refl _ _).alloc _
    have c3 := u3.heap c2 (noB _)
    have U3 := Lib.hid (u2.then u3)
    clear hw3 c2 u2 u3
    obtain ⟨d0, d1, d2⟩ := cells3 c3
    have C3 := Lib.hid c3; clear c3
    go_wp2_with fail
    refine (H4.out _ U3.out).mono ?_
    rintro e w4 ⟨rfl, rfl⟩
    go_wp2_with fail
    refine (H3.out _ U3.out).mono ?_
    rintro e w4 ⟨rfl, hp⟩
    have Hp := Lib.hid (WPost.pre U3.out hp); clear hp
    go_wp2
    go_ret
    exact ⟨rfl, Hp.out⟩
  · have hE : putE l.length x k = 2 := by rw [HEq.out, if_pos (by omega)]
    have HB := Lib.hid (putB_no hE (by decide)); have HE := Lib.hid hE
    rw [HB.out, HE.out]
    have ht : decide (((wUn (fo x) k + 1 + wWi (fo x) k : Nat) : Int) ≤ 1048576 - (l.length : Int)) = false := decide_eq_false (by rw [← Hsz.out]; omega)
    have H4 := Lib.hid (fun w' (u : Upd NoB w w') => ht ▸ hasRoom_any b l v (wUn (fo x) k + 1 + wWi (fo x) k) w' (H.out.upd u (fun k _ => noB k)) hl (by omega))
    clear hE hfit ht h57
    generalize wUn (fo x) k = p at *
    generalize wRe (fo x) k = q at *
    generalize wWi (fo x) k = r at *
    go_enter Try.func26, Try.ntmps26
    go_wp2_with (first | (go_at_call 53; refine (isParameter_any _ _).mono ?_; rw [HK.out]; rintro e w' ⟨rfl, rfl⟩) | (go_at_call 48; refine (isNumber_any _ _).mono ?_; rw [HX.out]; rintro e w' ⟨rfl, rfl⟩) | (go_at_call 49; refine (fold_any _ _ HX.out).mono ?_; rintro e w' ⟨rfl, rfl⟩))
    refine (H1.out _ (Upd.refl _ _)).mono ?_
    rintro e w1 ⟨rfl, u1⟩
    have U1 := Lib.hid u1; clear u1
    go_wp2_with fail
    obtain ⟨W2, hW2⟩ : ∃ W2, W2 = w1.alloc (.cells #[.int .i64 (p : Nat), .int .i64 (q : Nat), .int .i64 (r : Nat)] 88) := ⟨_, rfl⟩
    rw [← hW2]
    have u2 : Upd NoB w W2 := by rw [hW2]; exact U1.out.alloc _
    clear hW2
    refine (H2.out _).mono ?_
    rintro e w3 ⟨rfl, hw3⟩
    have U3 := Lib.hid (u2.then (by rw [hw3]; exact (Upd.refl _ _).alloc _ : Upd NoB W2 w3))
    clear hw3 u2
    go_wp2_with fail
    refine (H4.out _ U3.out).mono ?_
    rintro e w4 ⟨rfl, rfl⟩
    go_wp2
    go_ret
    exact ⟨rfl, WPost.none H.out U3.out⟩
theorem Put_nil (x k : Int) (w : World) : Calls Try.prog 26 #[.pointer none, .int .i64 x, .int .i64 k] w fun e w' => e = .returned (.int .i64 1) ∧ w = w' := by
  go_enter Try.func26, Try.ntmps26
  go_wp2
  go_ret
  exact ⟨rfl, rfl⟩

/-! the reference -/
theorem size_any (x : Int) (k : Nat) (w : World) (hx : isNum x = true) (hk : k ≤ 14) : Calls Try.prog 74 #[.int .i64 x, .int .i64 (k : Int)] w fun e w' => e = .returned (.int .i64 (wSz (fo x) k : Nat)) ∧ w = w' := by
  have HX := Lib.hid hx
  have hu := fo_lt hx
  have hq := shr_nat (fo x) k
  have hqle : fo x / 2 ^ k ≤ fo x := Nat.div_le_self _ _
  clear hx
  by_cases h : fo x / 2 ^ k < 24
  · have Hs := Lib.hid (show wSz (fo x) k = fo x / 2 ^ k + 1 + k by unfold wSz wUn wWi; rw [if_pos h, if_pos h])
    rw [Hs.out]
    have HF := Lib.hid (fun w' => folded_any x w' HX.out)
    generalize fo x = u at *
    generalize u / 2 ^ k = q at *
    have hu' : u ≤ 4294967295 := by omega
    have t : decide ((q : Int) < 24) = true := decide_eq_true (by omega)
    clear hu h
    go_enter Try.func74, Try.ntmps74
    go_wp2_with (go_at_call 51; refine (HF.out _).mono ?_; rintro e w' ⟨rfl, rfl⟩)
    go_ret
    exact ⟨rfl, rfl⟩
  · have Hs := Lib.hid (show wSz (fo x) k = 57 by unfold wSz wUn wWi; rw [if_neg h, if_neg h])
    rw [Hs.out]
    have HF := Lib.hid (fun w' => folded_any x w' HX.out)
    generalize fo x = u at *
    generalize u / 2 ^ k = q at *
    have hu' : u ≤ 4294967295 := by omega
    have t : decide ((q : Int) < 24) = false := decide_eq_false (by omega)
    clear hu h
    go_enter Try.func74, Try.ntmps74
    go_wp2_with (go_at_call 51; refine (HF.out _).mono ?_; rintro e w' ⟨rfl, rfl⟩)
    go_ret
    exact ⟨rfl, rfl⟩
set_option maxRecDepth 100000 in
set_option maxHeartbeats 1000000 in
theorem rput_any (b : Nat) (l : List Nat) (v : Value) (x : Int) (k : Nat) (w : World) (h : VAt w b l v) (hx : isNum x = true) (hk : k ≤ 14) (hf : l.length + wSz (fo x) k ≤ 1048576) :
    Calls Try.prog 75 #[.pointer (some ⟨b, 0, none⟩), .int .i64 x, .int .i64 (k : Int)] w fun e w' => e = .returned (.tuple #[]) ∧ VPost b v w (l ++ wBits (fo x) k) w' := by
  have HX := Lib.hid hx
  have hu := fo_lt hx
  have hq := shr_nat (fo x) k
  have hqle : fo x / 2 ^ k ≤ fo x := Nat.div_le_self _ _
  have hbad := putBad_not (u := fo x) (k := k) (by omega) hk
  have h24 := wUn_le (fo x) k
  have hsz : wSz (fo x) k = wUn (fo x) k + 1 + wWi (fo x) k := rfl
  have HF := Lib.hid (fun w' => folded_any x w' hx)
  have H := Lib.hid h
  clear hx h
  unfold wBits
  by_cases hc : fo x / 2 ^ k < 24
  · have e1 : wUn (fo x) k = fo x / 2 ^ k := if_pos hc
    have e2 : wRe (fo x) k = fo x % 2 ^ k := if_pos hc
    have e3 : wWi (fo x) k = k := if_pos hc
    rw [e1, e3] at hsz
    rw [hsz] at hf
    rw [e2, e3] at hbad
    rw [e1, e2, e3]
    clear h24
    have hdm := Nat.div_add_mod (fo x) (2 ^ k)
    obtain ⟨P, hP⟩ : ∃ P, P = 2 ^ k * (fo x / 2 ^ k) := ⟨_, rfl⟩
    rw [← hP] at hdm
    have hmul : (fo x / 2 ^ k : Nat) * (2 : Int) ^ k = (P : Nat) := by rw [hP, Nat.mul_comm]; simp
    clear e1 e2 e3 hsz hP
    generalize fo x = u at *
    generalize u / 2 ^ k = q at *
    generalize u % 2 ^ k = m at *
    have hu' : u ≤ 4294967295 := by omega
    have t : decide ((q : Int) < 24) = true := decide_eq_true (by omega)
    have hq23 : q ≤ 23 := by omega
    have hl1 : (l ++ (numBits 0 q ++ numBits 1 1)).length + k ≤ 1048576 := by rw [List.length_append, un_len]; omega
    have hsh : IntKind.i64.wrap ((q : Int) * 2 ^ k) = (P : Nat) := by rw [hmul]; exact IntWalk.i64_in _ (by omega)
    have hsh2 : wrap64 ((q : Int) * 2 ^ k) = (P : Nat) := by rw [hmul]; exact IntWalk.wrap64_in _ (by omega)
    have hsub : (u : Int) - (P : Nat) = (m : Nat) := by omega
    have HL1 := Lib.hid hl1; have Hbad := Lib.hid hbad
    have HL0 := Lib.hid (show l.length + (numBits 0 q ++ numBits 1 1).length ≤ 1048576 by rw [un_len]; omega)
    have HLz := Lib.hid (show l.length ≤ 1048576 by omega)
    clear hu hc hbad hl1 hf hmul hdm
    go_enter Try.func75, Try.ntmps75
    go_wp2_with (go_at_call 51; refine (HF.out _).mono ?_; rintro e w' ⟨rfl, rfl⟩)
    refine (vUnary_any b l v q w H.out HLz.out).mono ?_
    intro e w2 hr
    obtain ⟨rfl, hp⟩ := hr.ok (fun h => h ⟨by omega, by omega⟩) (by rw [Int.toNat_natCast]; exact HL0.out)
    rw [Int.toNat_natCast] at hp
    obtain ⟨v2, a2, u2, n2⟩ := hp
    have A2 := Lib.hid a2; have U2 := Lib.hid u2; have N2 := Lib.hid n2
    clear a2 u2 n2 hr
    go_wp2_with fail
    refine (vPut_any b _ v2 m k w2 A2.out (by have := HL1.out; omega)).mono ?_
    intro e w3 hr
    obtain ⟨rfl, hp⟩ := hr.ok Hbad.out (by rw [Int.toNat_natCast, numBits_length]; exact HL1.out)
    rw [Int.toNat_natCast, List.append_assoc] at hp
    have Hp := Lib.hid (VPost.next U2.out N2.out hp)
    clear hp hr
    go_wp2
    exact bodyPost_ret (results_none rfl _ _ _) rfl ⟨rfl, Hp.out⟩
  · have e1 : wUn (fo x) k = 24 := if_neg hc
    have e2 : wRe (fo x) k = fo x := if_neg hc
    have e3 : wWi (fo x) k = 32 := if_neg hc
    rw [e1, e3] at hsz
    rw [hsz] at hf
    rw [e2, e3] at hbad
    rw [e1, e2, e3]
    clear h24
    clear e1 e2 e3 hsz
    generalize fo x = u at *
    generalize u / 2 ^ k = q at *
    have hu' : u ≤ 4294967295 := by omega
    have t : decide ((q : Int) < 24) = false := decide_eq_false (by omega)
    have hl1 : (l ++ (numBits 0 24 ++ numBits 1 1)).length + 32 ≤ 1048576 := by rw [List.length_append, un_len]; omega
    have HL1 := Lib.hid hl1; have Hbad := Lib.hid hbad
    have HL0 := Lib.hid (show l.length + (numBits 0 24 ++ numBits 1 1).length ≤ 1048576 by rw [un_len]; omega)
    have HLz := Lib.hid (show l.length ≤ 1048576 by omega)
    clear hu hc hbad hl1 hf
    go_enter Try.func75, Try.ntmps75
    go_wp2_with (go_at_call 51; refine (HF.out _).mono ?_; rintro e w' ⟨rfl, rfl⟩)
    refine (vUnary_any b l v 24 w H.out HLz.out).mono ?_
    intro e w2 hr
    obtain ⟨rfl, hp⟩ := hr.ok (fun h => h ⟨by omega, by omega⟩) HL0.out
    obtain ⟨v2, a2, u2, n2⟩ := hp
    have A2 := Lib.hid a2; have U2 := Lib.hid u2; have N2 := Lib.hid n2
    clear a2 u2 n2 hr
    go_wp2_with fail
    refine (vPut_any b _ v2 u 32 w2 A2.out (by have := HL1.out; show (l ++ (numBits 0 24 ++ numBits 1 1)).length ≤ _; omega)).mono ?_
    intro e w3 hr
    obtain ⟨rfl, hp⟩ := hr.ok Hbad.out (by rw [numBits_length]; exact HL1.out)
    rw [List.append_assoc] at hp
    have Hp := Lib.hid (VPost.next U2.out N2.out hp)
    clear hp hr
    go_wp2
    go_end0
    exact ⟨rfl, Hp.out⟩
set_option maxRecDepth 100000 in
set_option maxHeartbeats 1000000 in
theorem rPut_any (b : Nat) (l : List Nat) (v : Value) (x k : Int) (w : World) (h : VAt w b l v) (hl : l.length ≤ 1048576) :
    Calls Try.prog 27 #[.pointer (some ⟨b, 0, none⟩), .int .i64 x, .int .i64 k] w fun e w' => e = .returned (.int .i64 (putE l.length x k)) ∧ VPost b v w (l ++ putB l.length x k) w' := by
  by_cases k0 : k < 0
  · have hk : isPar k = false := decide_eq_false (by omega)
    have hE : putE l.length x k = 1 := by unfold putE; rw [if_pos hk]
    have HB := Lib.hid (putB_no hE (by decide)); have HE := Lib.hid hE; have H := Lib.hid h
    clear hE h hk
    rw [HB.out, HE.out]
    go_enter Try.func27, Try.ntmps27
    go_wp2
    go_ret
    first | exact ⟨rfl, VPost.same H.out (Upd.refl _ _)⟩ | exact ⟨rfl, VPost.none H.out (Upd.refl _ _)⟩
  by_cases k1 : 14 < k
  · have hk : isPar k = false := decide_eq_false (by omega)
    have hE : putE l.length x k = 1 := by unfold putE; rw [if_pos hk]
    have HB := Lib.hid (putB_no hE (by decide)); have HE := Lib.hid hE; have H := Lib.hid h
    clear hE h hk
    rw [HB.out, HE.out]
    go_enter Try.func27, Try.ntmps27
    go_wp2
    go_ret
    first | exact ⟨rfl, VPost.same H.out (Upd.refl _ _)⟩ | exact ⟨rfl, VPost.none H.out (Upd.refl _ _)⟩
  have hk : isPar k = true := decide_eq_true (by omega)
  obtain ⟨k, rfl⟩ := Int.eq_ofNat_of_zero_le (show 0 ≤ k by omega)
  have k14 : k ≤ 14 := by omega
  cases hx : isNum x with
  | false =>
    have hE : putE l.length x k = 6 := by unfold putE; rw [if_neg (by simp [hk]), if_pos hx]
    have HB := Lib.hid (putB_no hE (by decide)); have HE := Lib.hid hE; have H := Lib.hid h; have HX := Lib.hid hx
    clear hE h hk hx k0 k1
    rw [HB.out, HE.out]
    go_enter Try.func27, Try.ntmps27
    go_wp2_with (go_at_call 50; refine (small_any _ _).mono ?_; rw [HX.out]; rintro e w' ⟨rfl, rfl⟩)
    go_ret
    first | exact ⟨rfl, VPost.same H.out (Upd.refl _ _)⟩ | exact ⟨rfl, VPost.none H.out (Upd.refl _ _)⟩
  | true =>
  have HX := Lib.hid hx
  have hEq : putE l.length x k = if 1048576 < l.length + wSz (fo x) k then 2 else 0 := by
    unfold putE; rw [if_neg (by simp [hk]), if_neg (by simp [hx]), Int.toNat_natCast]
  have h57 := wSz_le (fo x) k14
  have H1 := Lib.hid (fun w' => size_any x k w' hx k14)
  have HEq := Lib.hid hEq; have H := Lib.hid h
  have HLn := Lib.hid (fun w' (u : Upd NoB w w') => vlen_any b l v w' (H.out.upd u (fun k _ => noB k)))
  clear hk hEq h k0 k1
  by_cases hfit : l.length + wSz (fo x) k ≤ 1048576
  · have hE : putE l.length x k = 0 := by rw [HEq.out, if_neg (by omega)]
    have HB := Lib.hid (show putB l.length x k = wBits (fo x) k by unfold putB; rw [if_pos hE, Int.toNat_natCast])
    have HE := Lib.hid hE
    rw [HB.out, HE.out]
    have H3 := Lib.hid (fun w' (u : Upd NoB w w') => rput_any b l v x k w' (H.out.upd u (fun k _ => noB k)) hx k14 hfit)
    have ht : decide ((1048576 : Int) < (l.length : Int) + (wSz (fo x) k : Nat)) = false := decide_eq_false (by omega)
    clear hE hfit hx
    generalize wSz (fo x) k = z at *
    generalize l.length = L at *
    go_enter Try.func27, Try.ntmps27
    go_wp2_with (first | (go_at_call 50; refine (small_any _ _).mono ?_; rw [HX.out]; rintro e w' ⟨rfl, rfl⟩) | (go_at_call 29; refine (HLn.out _ (Upd.refl _ _)).mono ?_; rintro e w' ⟨rfl, rfl⟩) | (go_at_call 74; refine (H1.out _).mono ?_; rintro e w' ⟨rfl, rfl⟩))
    refine (H3.out _ (Upd.refl _ _)).mono ?_
    rintro e w4 ⟨rfl, hp⟩
    have Hp := Lib.hid hp; clear hp
    go_wp2
    go_ret
    exact ⟨rfl, Hp.out⟩
  · have hE : putE l.length x k = 2 := by rw [HEq.out, if_pos (by omega)]
    have HB := Lib.hid (putB_no hE (by decide)); have HE := Lib.hid hE
    rw [HB.out, HE.out]
    have ht : decide ((1048576 : Int) < (l.length : Int) + (wSz (fo x) k : Nat)) = true := decide_eq_true (by omega)
    clear hE hfit hx
    generalize wSz (fo x) k = z at *
    generalize l.length = L at *
    go_enter Try.func27, Try.ntmps27
    go_wp2_with (first | (go_at_call 50; refine (small_any _ _).mono ?_; rw [HX.out]; rintro e w' ⟨rfl, rfl⟩) | (go_at_call 29; refine (HLn.out _ (Upd.refl _ _)).mono ?_; rintro e w' ⟨rfl, rfl⟩) | (go_at_call 74; refine (H1.out _).mono ?_; rintro e w' ⟨rfl, rfl⟩))
    go_ret
    first | exact ⟨rfl, VPost.same H.out (Upd.refl _ _)⟩ | exact ⟨rfl, VPost.none H.out (Upd.refl _ _)⟩
end Go.Proofs.Ytmdladcfckoglaa
