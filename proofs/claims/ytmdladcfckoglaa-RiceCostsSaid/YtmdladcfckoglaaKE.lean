/- rice: Get -/
import Derived.Test.YtmdladcfckoglaaKD
namespace Go.Proofs.Ytmdladcfckoglaa
open Go.RowKit Go.Shelf

/-- what folded reads: the number, the error, the position -/
def fdR (zs : List Nat) (cnt at_ k : Nat) : Int × Int × Nat :=
  if (unaR zs cnt at_ 24).2.1 ≠ 0 then (0, (unaR zs cnt at_ 24).2.1, (unaR zs cnt at_ 24).2.2)
  else if (unaR zs cnt at_ 24).1 < 24 then
    ((unaR zs cnt at_ 24).1 * 2 ^ k + (getR zs cnt (unaR zs cnt at_ 24).2.2 k).1, (getR zs cnt (unaR zs cnt at_ 24).2.2 k).2.1, (getR zs cnt (unaR zs cnt at_ 24).2.2 k).2.2)
  else if (getR zs cnt (unaR zs cnt at_ 24).2.2 32).2.1 = 0 ∧ (getR zs cnt (unaR zs cnt at_ 24).2.2 32).1 / 2 ^ k < 24 then (0, 4, (getR zs cnt (unaR zs cnt at_ 24).2.2 32).2.2)
  else getR zs cnt (unaR zs cnt at_ 24).2.2 32
/-- Get: the number, the error, the position -/
def gtR (zs : List Nat) (cnt at_ : Nat) (k : Int) : Int × Int × Nat :=
  if isPar k = false then (0, 1, at_)
  else if (fdR zs cnt at_ k.toNat).2.1 ≠ 0 then (0, (fdR zs cnt at_ k.toNat).2.1, at_)
  else (uf (fdR zs cnt at_ k.toNat).1.toNat, 0, (fdR zs cnt at_ k.toNat).2.2)
theorem una24 (zs : List Nat) (cnt at_ : Nat) (h : at_ ≤ cnt) : (∃ E : Int, E ≠ 0 ∧ unaR zs cnt at_ 24 = (0, E, at_)) ∨ ∃ q p : Nat, unaR zs cnt at_ 24 = ((q : Int), 0, p) ∧ q ≤ 24 ∧ at_ ≤ p ∧ p ≤ cnt := by
  have hle := zscan_le 24 (bitsOf zs at_ (cnt - at_)) 0
  rw [bitsOf_length] at hle
  have e : unaR zs cnt at_ 24 = if (zscan 24 (bitsOf zs at_ (cnt - at_)) 0).2 = 0 then (((zscan 24 (bitsOf zs at_ (cnt - at_)) 0).1 : Int), 0, at_ + ((zscan 24 (bitsOf zs at_ (cnt - at_)) 0).1 + 1)) else (0, ((zscan 24 (bitsOf zs at_ (cnt - at_)) 0).2 : Int), at_) := by
    rw [unaR, if_neg (by omega)]; rfl
  rw [e]
  by_cases h2 : (zscan 24 (bitsOf zs at_ (cnt - at_)) 0).2 = 0
  · rw [if_pos h2]
    obtain ⟨l1, l2, l3⟩ := hle h2
    exact .inr ⟨_, _, rfl, l3 (by omega), by omega, by omega⟩
  · rw [if_neg h2]
    exact .inl ⟨_, by omega, rfl⟩
theorem getN (zs : List Nat) (cnt at_ n : Nat) (_h : at_ ≤ cnt) (hn : n ≤ 32) : getR zs cnt at_ n = (0, 3, at_) ∨ ∃ y p : Nat, getR zs cnt at_ n = ((y : Int), 0, p) ∧ y < 2 ^ n ∧ at_ ≤ p ∧ p ≤ cnt := by
  by_cases h3 : (cnt : Int) - at_ < n
  · exact .inl (by rw [getR, if_neg (by omega), if_pos h3])
  · refine .inr ⟨valBits (bitsOf zs at_ n), at_ + n, ?_, ?_, by omega, by omega⟩
    · rw [getR, if_neg (by omega), if_neg h3, Int.toNat_natCast]
    · have := valBits_lt (bitsOf_01 zs at_ n)
      rwa [bitsOf_length] at this
/-- the ways of folded -/
theorem fdR_ways (zs : List Nat) (cnt at_ k : Nat) (h : at_ ≤ cnt) (hk : k ≤ 14) :
    (∃ E : Int, E ≠ 0 ∧ unaR zs cnt at_ 24 = (0, E, at_) ∧ fdR zs cnt at_ k = (0, E, at_)) ∨
    (∃ q p : Nat, unaR zs cnt at_ 24 = ((q : Int), 0, p) ∧ q < 24 ∧ p ≤ cnt ∧
      ((getR zs cnt p k = (0, 3, p) ∧ fdR zs cnt at_ k = ((q : Int) * 2 ^ k + 0, 3, p)) ∨ (∃ y p2 : Nat, getR zs cnt p k = ((y : Int), 0, p2) ∧ y < 2 ^ k ∧ p2 ≤ cnt ∧ fdR zs cnt at_ k = ((q : Int) * 2 ^ k + y, 0, p2)))) ∨
    (∃ p : Nat, unaR zs cnt at_ 24 = (24, 0, p) ∧ p ≤ cnt ∧
      ((getR zs cnt p 32 = (0, 3, p) ∧ fdR zs cnt at_ k = (0, 3, p)) ∨
       (∃ y p2 : Nat, getR zs cnt p 32 = ((y : Int), 0, p2) ∧ y < 4294967296 ∧ p2 ≤ cnt ∧ ((y / 2 ^ k < 24 ∧ fdR zs cnt at_ k = (0, 4, p2)) ∨ (¬ y / 2 ^ k < 24 ∧ fdR zs cnt at_ k = ((y : Int), 0, p2)))))) := by
  rcases una24 zs cnt at_ h with ⟨E, hE, e⟩ | ⟨q, p, e, hq, hp1, hp2⟩
  · exact .inl ⟨E, hE, e, by unfold fdR; rw [e]; exact if_pos hE⟩
  · by_cases h24 : q < 24
    · refine .inr (.inl ⟨q, p, e, h24, hp2, ?_⟩)
      have ef : fdR zs cnt at_ k = ((q : Int) * 2 ^ k + (getR zs cnt p k).1, (getR zs cnt p k).2.1, (getR zs cnt p k).2.2) := by
        unfold fdR; rw [e]; simp only; rw [if_neg (fun hh => hh rfl), if_pos (by omega)]
      rcases getN zs cnt p k hp2 (by omega) with g | ⟨y, p2, g, hy, h1, h2⟩
      · exact .inl ⟨g, by rw [ef, g]⟩
      · exact .inr ⟨y, p2, g, hy, h2, by rw [ef, g]⟩
    · obtain rfl : q = 24 := by omega
      refine .inr (.inr ⟨p, e, hp2, ?_⟩)
      have ef : fdR zs cnt at_ k = if (getR zs cnt p 32).2.1 = 0 ∧ (getR zs cnt p 32).1 / 2 ^ k < 24 then (0, 4, (getR zs cnt p 32).2.2) else getR zs cnt p 32 := by
        unfold fdR; rw [e]; simp only; rw [if_neg (fun hh => hh rfl), if_neg (by omega)]
      rcases getN zs cnt p 32 hp2 (by omega) with g | ⟨y, p2, g, hy, h1, h2⟩
      · have g : getR zs cnt p 32 = (0, 3, p) := g
        exact .inl ⟨g, by rw [ef, g, if_neg (fun hh => by have := hh.1; simp at this)]⟩
      · have g : getR zs cnt p 32 = ((y : Int), 0, p2) := g
        refine .inr ⟨y, p2, g, by simpa using hy, h2, ?_⟩
        have es := shr_nat y k
        by_cases hs : y / 2 ^ k < 24
        · exact .inl ⟨hs, by rw [ef, g]; simp only; rw [if_pos ⟨trivial, by omega⟩]⟩
        · exact .inr ⟨hs, by rw [ef, g]; simp only; rw [if_neg (fun hh => by have := hh.2; omega)]⟩
theorem mul_pow_lt {q k y : Nat} (hq : q < 24) (hk : k ≤ 14) (hy : y < 2 ^ k) : ∃ P : Nat, (q : Int) * 2 ^ k = (P : Nat) ∧ P + y ≤ 393216 ∧ P ≤ 393216 := by
  refine ⟨q * 2 ^ k, by simp, ?_⟩
  have h1 := Nat.pow_le_pow_right (n := 2) (by decide) hk
  have h2 : 2 ^ 14 = 16384 := by decide
  rw [h2] at h1
  generalize 2 ^ k = p at *
  have h3 : q * p ≤ 23 * p := Nat.mul_le_mul_right _ (by omega)
  omega
theorem fdR_lt (zs : List Nat) (cnt at_ k : Nat) (h : at_ ≤ cnt) (hk : k ≤ 14) : (fdR zs cnt at_ k).2.1 = 0 → ∃ u : Nat, (fdR zs cnt at_ k).1 = (u : Int) ∧ u < 4294967296 ∧ (fdR zs cnt at_ k).2.2 ≤ cnt := by
  intro h0
  rcases fdR_ways zs cnt at_ k h hk with ⟨E, hE, _, e⟩ | ⟨q, p, _, hq, hp, ⟨_, e⟩ | ⟨y, p2, _, hy, h2, e⟩⟩ | ⟨p, _, hp, ⟨_, e⟩ | ⟨y, p2, _, hy, h2, ⟨_, e⟩ | ⟨_, e⟩⟩⟩
  · rw [e] at h0; exact absurd h0 hE
  · rw [e] at h0; simp at h0
  · obtain ⟨P, hP, hb, _⟩ := mul_pow_lt hq hk hy
    rw [e]
    exact ⟨P + y, by simp only; rw [hP]; simp, by omega, h2⟩
  · rw [e] at h0; simp at h0
  · rw [e] at h0; simp at h0
  · rw [e]
    exact ⟨y, rfl, hy, h2⟩
theorem RRes.then {b : Nat} {w w1 w2 : World} (h : Upd (fun k => k = b) w w1) (k : Upd (fun k => k = b) w1 w2) : Upd (fun k => k = b) w w2 := h.trans k (fun _ _ h => h)

set_option maxRecDepth 100000 in
set_option maxHeartbeats 2000000 in
theorem gfolded_any (b : Nat) (sv : Value) (zs : List Nat) (cnt at_ k : Nat) (w : World) (h : RAt w b sv zs cnt at_) (hsep : zs ≠ [] → sv.ownBlock ≠ some b) (hk : k ≤ 14) :
    Calls Try.prog 78 #[.pointer (some ⟨b, 0, none⟩), .int .i64 (k : Int)] w fun e w' => RRes b sv zs cnt w (fdR zs cnt at_ k) e w' := by
  have hat := h.2.2.2.1
  have Hs := Lib.hid hsep
  have H1 := Lib.hid (runary_any b sv zs cnt at_ 24 w h hsep)
  have HG := Lib.hid (fun p w' (h' : RAt w' b sv zs cnt p) => get_any b sv zs cnt p (k : Int) w' h' hsep)
  have HG32 := Lib.hid (fun p w' (h' : RAt w' b sv zs cnt p) => get_any b sv zs cnt p 32 w' h' hsep)
  clear h hsep
  rcases fdR_ways zs cnt at_ k hat hk with ⟨E, hE, e1, e⟩ | ⟨q, p, e1, hq, hp, ⟨e2, e⟩ | ⟨y, p2, e2, hy, h2, e⟩⟩ | ⟨p, e1, hp, ⟨e2, e⟩ | ⟨y, p2, e2, hy, h2, ⟨hc, e⟩ | ⟨hc, e⟩⟩⟩
  · rw [e]
    rw [e1] at H1
    have t : (E != 0) = true := by simpa using hE
    clear e e1 hE
    go_enter Try.func78, Try.ntmps78
    go_wp2_with fail
    refine H1.out.mono ?_
    rintro e w1 ⟨rfl, r1, u1⟩
    have R1 := Lib.hid r1; have U1 := Lib.hid u1; clear r1 u1
    go_wp2
    go_ret2
    exact ⟨rfl, R1.out, U1.out⟩
  · rw [e]
    rw [e1] at H1
    obtain ⟨P, hP, _, hb⟩ := mul_pow_lt (y := 0) hq hk (Nat.two_pow_pos _)
    have hw : wrap64 ((q : Int) * 2 ^ k) = (P : Nat) := by rw [hP]; exact IntWalk.wrap64_in _ (by omega)
    have t : decide ((q : Int) < 24) = true := decide_eq_true (by omega)
    rw [hP]
    have E2 := Lib.hid e2
    clear e e1 hP e2
    go_enter Try.func78, Try.ntmps78
    go_wp2_with fail
    refine H1.out.mono ?_
    rintro e w1 ⟨rfl, r1, u1⟩
    have R1 := Lib.hid r1; have U1 := Lib.hid u1; clear r1 u1
    go_wp2_with fail
    refine (HG.out p w1 R1.out).mono ?_
    rw [E2.out]
    rintro e w2 ⟨rfl, r2, u2⟩
    have R2 := Lib.hid r2; have U2 := Lib.hid (U1.out.trans u2 (fun _ _ h => h)); clear r2 u2
    go_wp2
    go_ret2
    exact ⟨rfl, R2.out, U2.out⟩
  · rw [e]
    rw [e1] at H1
    obtain ⟨P, hP, hb, _⟩ := mul_pow_lt hq hk hy
    have hw : wrap64 ((q : Int) * 2 ^ k) = (P : Nat) := by rw [hP]; exact IntWalk.wrap64_in _ (by omega)
    have t : decide ((q : Int) < 24) = true := decide_eq_true (by omega)
    rw [hP]
    have E2 := Lib.hid e2; have Hy := Lib.hid hy
    clear e e1 hP e2 hy
    go_enter Try.func78, Try.ntmps78
    go_wp2_with fail
    refine H1.out.mono ?_
    rintro e w1 ⟨rfl, r1, u1⟩
    have R1 := Lib.hid r1; have U1 := Lib.hid u1; clear r1 u1
    go_wp2_with fail
    refine (HG.out p w1 R1.out).mono ?_
    rw [E2.out]
    rintro e w2 ⟨rfl, r2, u2⟩
    have R2 := Lib.hid r2; have U2 := Lib.hid (U1.out.trans u2 (fun _ _ h => h)); clear r2 u2
    go_wp2
    go_ret2
    exact ⟨rfl, R2.out, U2.out⟩
  · rw [e]
    rw [e1] at H1
    have E2 := Lib.hid e2
    clear e e1 e2
    go_enter Try.func78, Try.ntmps78
    go_wp2_with fail
    refine H1.out.mono ?_
    rintro e w1 ⟨rfl, r1, u1⟩
    have R1 := Lib.hid r1; have U1 := Lib.hid u1; clear r1 u1
    go_wp2_with fail
    refine (HG32.out p w1 R1.out).mono ?_
    rw [E2.out]
    rintro e w2 ⟨rfl, r2, u2⟩
    have R2 := Lib.hid r2; have U2 := Lib.hid (U1.out.trans u2 (fun _ _ h => h)); clear r2 u2
    go_wp2
    go_ret2
    exact ⟨rfl, R2.out, U2.out⟩
  all_goals
    rw [e]
    rw [e1] at H1
    have es := shr_nat y k
    have hb : y / 2 ^ k ≤ y := Nat.div_le_self _ _
    generalize y / 2 ^ k = z at *
    have hy2 : y ≤ 4294967295 := by omega
    first | (have t : decide ((z : Int) < 24) = true := decide_eq_true (by omega)) | (have t : decide ((z : Int) < 24) = false := decide_eq_false (by omega))
    have E2 := Lib.hid e2
    clear e e1 e2 hy hc
    go_enter Try.func78, Try.ntmps78
    go_wp2_with fail
    refine H1.out.mono ?_
    rintro e w1 ⟨rfl, r1, u1⟩
    have R1 := Lib.hid r1; have U1 := Lib.hid u1; clear r1 u1
    go_wp2_with fail
    refine (HG32.out p w1 R1.out).mono ?_
    rw [E2.out]
    rintro e w2 ⟨rfl, r2, u2⟩
    have R2 := Lib.hid r2; have U2 := Lib.hid (U1.out.trans u2 (fun _ _ h => h)); clear r2 u2
    go_wp2
    go_ret2
    exact ⟨rfl, R2.out, U2.out⟩

set_option maxRecDepth 100000 in
set_option maxHeartbeats 2000000 in
theorem Get_any (b : Nat) (sv : Value) (zs : List Nat) (cnt at_ : Nat) (k : Int) (w : World) (h : RAt w b sv zs cnt at_) (hsep : zs ≠ [] → sv.ownBlock ≠ some b) :
    Calls Try.prog 37 #[.pointer (some ⟨b, 0, none⟩), .int .i64 k] w fun e w' => RRes b sv zs cnt w (gtR zs cnt at_ k) e w' := by
  have hat := h.2.2.2.1
  cases hk : isPar k with
  | false =>
    have V := Lib.hid (show gtR zs cnt at_ k = (0, 1, at_) from if_pos hk)
    have H := Lib.hid h; have HK := Lib.hid hk; clear h hk
    rw [V.out]
    go_enter Try.func37, Try.ntmps37
    go_wp2_with (go_at_call 53; refine (isParameter_any _ _).mono ?_; rw [HK.out]; rintro e w' ⟨rfl, rfl⟩)
    go_ret2
    exact ⟨rfl, H.out, Upd.refl _ _⟩
  | true =>
  obtain ⟨k0, k1⟩ := isPar_yes hk
  obtain ⟨k, rfl⟩ := Int.eq_ofNat_of_zero_le k0
  have k14 : k ≤ 14 := by omega
  have HK := Lib.hid hk
  have V : gtR zs cnt at_ (k : Int) = if (fdR zs cnt at_ k).2.1 ≠ 0 then (0, (fdR zs cnt at_ k).2.1, at_) else (uf (fdR zs cnt at_ k).1.toNat, 0, (fdR zs cnt at_ k).2.2) := by
    unfold gtR; rw [if_neg (by simp [hk]), Int.toNat_natCast]
  have HF := gfolded_any b sv zs cnt at_ k w h hsep k14
  have hlt := fdR_lt zs cnt at_ k hat k14
  have H := Lib.hid h; have Hs := Lib.hid hsep
  clear h hsep hk k0 k1
  generalize fdR zs cnt at_ k = r at *
  obtain ⟨x, E, p⟩ := r
  simp only at V hlt
  by_cases hE : E = 0
  · subst hE
    obtain ⟨u, hu, hu2, hp⟩ := hlt rfl
    subst hu
    rw [if_neg (fun h => h rfl), Int.toNat_natCast] at V
    have HV := Lib.hid V; have HFF := Lib.hid HF
    have Hu := Lib.hid hu2
    clear V HF hu2 hlt
    rw [HV.out]
    go_enter Try.func37, Try.ntmps37
    go_wp2_with (first | (go_at_call 53; refine (isParameter_any _ _).mono ?_; rw [HK.out]; rintro e w' ⟨rfl, rfl⟩) | (go_at_call 39; refine (at_any _ _ _ H.out.c2).mono ?_; rintro e w' ⟨rfl, rfl⟩))
    refine HFF.out.mono ?_
    rintro e w1 ⟨rfl, r1, u1⟩
    have R1 := Lib.hid r1; have U1 := Lib.hid u1; clear r1 u1
    go_wp2_with (go_at_call 52; refine (unfold_any _ _ Hu.out).mono ?_; rintro e w' ⟨rfl, rfl⟩)
    go_ret2
    exact ⟨rfl, R1.out, U1.out⟩
  · rw [if_pos hE] at V
    have t : (E != 0) = true := by simpa using hE
    have HV := Lib.hid V; have HFF := Lib.hid HF
    have hsk : seekR cnt at_ (at_ : Int) = (0, at_) := by rw [seekR, if_neg (by omega), Int.toNat_natCast]
    have hskp : seekR cnt p (at_ : Int) = (0, at_) := by rw [seekR, if_neg (by omega), Int.toNat_natCast]
    have HS := Lib.hid hskp
    clear V HF hlt hE hsk hskp
    rw [HV.out]
    go_enter Try.func37, Try.ntmps37
    go_wp2_with (first | (go_at_call 53; refine (isParameter_any _ _).mono ?_; rw [HK.out]; rintro e w' ⟨rfl, rfl⟩) | (go_at_call 39; refine (at_any _ _ _ H.out.c2).mono ?_; rintro e w' ⟨rfl, rfl⟩))
    refine HFF.out.mono ?_
    rintro e w1 ⟨rfl, r1, u1⟩
    have R1 := Lib.hid r1; have U1 := Lib.hid u1; clear r1 u1
    go_wp2_with fail
    refine (seek_any b sv zs cnt p at_ w1 R1.out Hs.out).mono ?_
    rw [HS.out]
    rintro e w2 ⟨rfl, r2, u2⟩
    have R2 := Lib.hid r2; have U2 := Lib.hid (U1.out.trans u2 (fun _ _ h => h)); clear r2 u2
    go_wp2
    go_ret2
    exact ⟨rfl, R2.out, U2.out⟩
theorem Get_nil (k : Int) (w : World) : Calls Try.prog 37 #[.pointer none, .int .i64 k] w fun e w' => e = .returned (.tuple #[.int .i64 0, .int .i64 1]) ∧ w = w' := by
  go_enter Try.func37, Try.ntmps37
  go_wp2
  go_ret2
  exact ⟨rfl, rfl⟩
end Go.Proofs.Ytmdladcfckoglaa
