/- rice: the reference's Get -/
import Derived.Test.YtmdladcfckoglaaKE
namespace Go.Proofs.Ytmdladcfckoglaa
open Go.RowKit Go.Shelf

theorem bitsOf_len (zs : List Nat) (cnt : Nat) : (bitsOf zs 0 cnt).length = cnt := bitsOf_length zs 0 cnt
theorem gtR_eq (zs : List Nat) (cnt at_ k : Nat) (hk : k ≤ 14) : gtR zs cnt at_ (k : Int) = if (fdR zs cnt at_ k).2.1 ≠ 0 then (0, (fdR zs cnt at_ k).2.1, at_) else (uf (fdR zs cnt at_ k).1.toNat, 0, (fdR zs cnt at_ k).2.2) := by
  have h : isPar (k : Int) = true := decide_eq_true ⟨by omega, by omega⟩
  unfold gtR; rw [if_neg (by simp [h]), Int.toNat_natCast]
theorem ufS_nat {u : Nat} (h : u < 4294967296) : ufS (u : Int) = uf u ∧ ufE (u : Int) = 0 := by
  unfold ufS ufE
  rw [if_pos (by omega), if_pos (by omega), Int.toNat_natCast]
  exact ⟨rfl, rfl⟩
theorem qgetR_any (b : Nat) (sv : Value) (zs : List Nat) (cnt p : Nat) (n : Int) (w : World) (hp : p ≤ cnt) (h : QAt w b sv (bitsOf zs 0 cnt) p) :
    Calls Try.prog 80 #[.pointer (some ⟨b, 0, none⟩), .int .i64 n] w fun e w' => QRes b sv (bitsOf zs 0 cnt) w (getR zs cnt p n) e w' := by
  have := qget_any b sv (bitsOf zs 0 cnt) p n w h
  rwa [getQ_eq zs cnt p n hp] at this
theorem qseekR_any (b : Nat) (sv : Value) (zs : List Nat) (cnt p at_ : Nat) (w : World) (hat : at_ ≤ cnt) (h : QAt w b sv (bitsOf zs 0 cnt) p) :
    Calls Try.prog 36 #[.pointer (some ⟨b, 0, none⟩), .int .i64 (at_ : Int)] w fun e w' => e = .returned (.int .i64 0) ∧ QAt w' b sv (bitsOf zs 0 cnt) at_ ∧ Upd (fun k => k = b) w w' := by
  have := qseek_any b sv (bitsOf zs 0 cnt) p (at_ : Int) w h
  rwa [bitsOf_len, show seekR cnt p (at_ : Int) = (0, at_) by rw [seekR, if_neg (by omega), Int.toNat_natCast]] at this
set_option maxRecDepth 100000 in
set_option maxHeartbeats 400000 in
theorem rGet_any (b : Nat) (sv : Value) (zs : List Nat) (cnt at_ : Nat) (k : Int) (w : World) (h : QAt w b sv (bitsOf zs 0 cnt) at_) :
    Calls Try.prog 38 #[.pointer (some ⟨b, 0, none⟩), .int .i64 k] w fun e w' => QRes b sv (bitsOf zs 0 cnt) w (gtR zs cnt at_ k) e w' := by
  have hat := h.2.2.2.1
  rw [bitsOf_len] at hat
  by_cases k0 : k < 0
  · have V := Lib.hid (show gtR zs cnt at_ k = (0, 1, at_) from if_pos (decide_eq_false (by omega)))
    have H := Lib.hid h; clear h
    rw [V.out]
    go_enter Try.func38, Try.ntmps38
    go_wp2
    go_ret2
    exact ⟨rfl, H.out, Upd.refl _ _⟩
  by_cases k1 : 14 < k
  · have V := Lib.hid (show gtR zs cnt at_ k = (0, 1, at_) from if_pos (decide_eq_false (by omega)))
    have H := Lib.hid h; clear h
    rw [V.out]
    go_enter Try.func38, Try.ntmps38
    go_wp2
    go_ret2
    exact ⟨rfl, H.out, Upd.refl _ _⟩
  obtain ⟨k, rfl⟩ := Int.eq_ofNat_of_zero_le (show 0 ≤ k by omega)
  have k14 : k ≤ 14 := by omega
  have V := gtR_eq zs cnt at_ k k14
  have H1 := qunary_any b sv (bitsOf zs 0 cnt) at_ 24 w h
  rw [unaQ_eq] at H1
  have HG := Lib.hid (fun (p : Nat) (hp : p ≤ cnt) w' (h' : QAt w' b sv (bitsOf zs 0 cnt) p) => qgetR_any b sv zs cnt p (k : Int) w' hp h')
  have HG32 := Lib.hid (fun (p : Nat) (hp : p ≤ cnt) w' (h' : QAt w' b sv (bitsOf zs 0 cnt) p) => qgetR_any b sv zs cnt p 32 w' hp h')
  have HS := Lib.hid (fun (p : Nat) w' (h' : QAt w' b sv (bitsOf zs 0 cnt) p) => qseekR_any b sv zs cnt p at_ w' hat h')
  have H := Lib.hid h
  clear h k0 k1
  rcases fdR_ways zs cnt at_ k hat k14 with ⟨E, hE, e1, e⟩ | ⟨q, p, e1, hq, hp, ⟨e2, e⟩ | ⟨y, p2, e2, hy, h2, e⟩⟩ | ⟨p, e1, hp, ⟨e2, e⟩ | ⟨y, p2, e2, hy, h2, ⟨hc, e⟩ | ⟨hc, e⟩⟩⟩
  · rw [V, e]
    simp only
    rw [if_pos hE]
    rw [e1] at H1
    have t : (E != 0) = true := by simpa using hE
    clear e e1 hE V
    have HU := Lib.hid H1; clear H1
    go_enter Try.func38, Try.ntmps38
    go_wp2_with (go_at_call 40; refine (qat_any _ _ _ H.out.c1).mono ?_; rintro e w' ⟨rfl, rfl⟩)
    refine HU.out.mono ?_
    rintro e w1 ⟨rfl, r1, u1⟩
    have R1 := Lib.hid r1; have U1 := Lib.hid u1; clear r1 u1
    go_wp2
    go_ret2
    exact ⟨rfl, R1.out, U1.out⟩
  · rw [V, e]
    simp only
    rw [if_pos (by decide)]
    rw [e1] at H1
    have t : (((q : Int)) == 24) = false := by rw [Bool.eq_false_iff]; intro hh; have := beq_iff_eq.1 hh; omega
    have E2 := Lib.hid e2
    clear e e1 e2 V
    have HU := Lib.hid H1; clear H1
    go_enter Try.func38, Try.ntmps38
    go_wp2_with (go_at_call 40; refine (qat_any _ _ _ H.out.c1).mono ?_; rintro e w' ⟨rfl, rfl⟩)
    refine HU.out.mono ?_
    rintro e w1 ⟨rfl, r1, u1⟩
    have R1 := Lib.hid r1; have U1 := Lib.hid u1; clear r1 u1
    go_wp2_with fail
    refine (HG.out p hp w1 R1.out).mono ?_
    rw [E2.out]
    rintro e w2 ⟨rfl, r2, u2⟩
    have R2 := Lib.hid r2; have U2 := Lib.hid (U1.out.trans u2 (fun _ _ h => h)); clear r2 u2
    go_wp2_with fail
    refine (HS.out p w2 R2.out).mono ?_
    rintro e w3 ⟨rfl, r3, u3⟩
    have R3 := Lib.hid r3; have U3 := Lib.hid (U2.out.trans u3 (fun _ _ h => h)); clear r3 u3
    go_wp2
    go_ret2
    exact ⟨rfl, R3.out, U3.out⟩
  · rw [V, e]
    simp only
    rw [if_neg (fun hh => hh rfl)]
    rw [e1] at H1
    have t : (((q : Int)) == 24) = false := by rw [Bool.eq_false_iff]; intro hh; have := beq_iff_eq.1 hh; omega
    have t2 : decide ((q : Int) < 24) = true := decide_eq_true (by omega)
    obtain ⟨P, hP, hb, _⟩ := mul_pow_lt hq k14 hy
    have e5 : ((q : Int) * 2 ^ k + y).toNat = y + P := by rw [hP]; omega
    rw [e5]
    obtain ⟨f1, f2⟩ := ufS_nat (show y + P < 4294967296 by omega)
    have F1 := Lib.hid f1; have F2 := Lib.hid f2
    have E2 := Lib.hid e2; have Hy := Lib.hid hy
    have eC : ((y + P : Nat) : Int) = (y : Int) + P := by simp
    have EC := Lib.hid eC
    have hw : wrap64 ((q : Int) * 2 ^ k) = (P : Nat) := by clear f1 f2 eC e5 V e; rw [hP]; exact IntWalk.wrap64_in _ (by omega)
    clear e e1 e2 V hP hy e5 f1 f2 eC
    have HU := Lib.hid H1; clear H1
    go_enter Try.func38, Try.ntmps38
    go_wp2_with (go_at_call 40; refine (qat_any _ _ _ H.out.c1).mono ?_; rintro e w' ⟨rfl, rfl⟩)
    refine HU.out.mono ?_
    rintro e w1 ⟨rfl, r1, u1⟩
    have R1 := Lib.hid r1; have U1 := Lib.hid u1; clear r1 u1
    go_wp2_with fail
    refine (HG.out p hp w1 R1.out).mono ?_
    rw [E2.out]
    rintro e w2 ⟨rfl, r2, u2⟩
    have R2 := Lib.hid r2; have U2 := Lib.hid (U1.out.trans u2 (fun _ _ h => h)); clear r2 u2
    go_wp2_with fail
    refine (rUnfold_any _ w2).mono ?_
    rintro e w3 ⟨rfl, rfl⟩
    rw [← EC.out, F1.out, F2.out]
    go_wp2
    go_ret2
    exact ⟨rfl, R2.out, U2.out⟩
  · rw [V, e]
    simp only
    rw [if_pos (by decide)]
    rw [e1] at H1
    have E2 := Lib.hid e2
    clear e e1 e2 V
    have HU := Lib.hid H1; clear H1
    go_enter Try.func38, Try.ntmps38
    go_wp2_with (go_at_call 40; refine (qat_any _ _ _ H.out.c1).mono ?_; rintro e w' ⟨rfl, rfl⟩)
    refine HU.out.mono ?_
    rintro e w1 ⟨rfl, r1, u1⟩
    have R1 := Lib.hid r1; have U1 := Lib.hid u1; clear r1 u1
    go_wp2_with fail
    refine (HG32.out p hp w1 R1.out).mono ?_
    rw [E2.out]
    rintro e w2 ⟨rfl, r2, u2⟩
    have R2 := Lib.hid r2; have U2 := Lib.hid (U1.out.trans u2 (fun _ _ h => h)); clear r2 u2
    go_wp2_with fail
    refine (HS.out p w2 R2.out).mono ?_
    rintro e w3 ⟨rfl, r3, u3⟩
    have R3 := Lib.hid r3; have U3 := Lib.hid (U2.out.trans u3 (fun _ _ h => h)); clear r3 u3
    go_wp2
    go_ret2
    exact ⟨rfl, R3.out, U3.out⟩
  · rw [V, e]
    simp only
    rw [if_pos (by decide)]
    rw [e1] at H1
    have es := shr_nat y k
    have hb : y / 2 ^ k ≤ y := Nat.div_le_self _ _
    generalize y / 2 ^ k = z at *
    have hy2 : y ≤ 4294967295 := by omega
    have t : decide ((z : Int) < 24) = true := decide_eq_true (by omega)
    have E2 := Lib.hid e2
    clear e e1 e2 hy hc V
    have HU := Lib.hid H1; clear H1
    go_enter Try.func38, Try.ntmps38
    go_wp2_with (go_at_call 40; refine (qat_any _ _ _ H.out.c1).mono ?_; rintro e w' ⟨rfl, rfl⟩)
    refine HU.out.mono ?_
    rintro e w1 ⟨rfl, r1, u1⟩
    have R1 := Lib.hid r1; have U1 := Lib.hid u1; clear r1 u1
    go_wp2_with fail
    refine (HG32.out p hp w1 R1.out).mono ?_
    rw [E2.out]
    rintro e w2 ⟨rfl, r2, u2⟩
    have R2 := Lib.hid r2; have U2 := Lib.hid (U1.out.trans u2 (fun _ _ h => h)); clear r2 u2
    go_wp2_with fail
    refine (HS.out p2 w2 R2.out).mono ?_
    rintro e w3 ⟨rfl, r3, u3⟩
    have R3 := Lib.hid r3; have U3 := Lib.hid (U2.out.trans u3 (fun _ _ h => h)); clear r3 u3
    go_wp2
    go_ret2
    exact ⟨rfl, R3.out, U3.out⟩
  · rw [V, e]
    simp only
    rw [if_neg (fun hh => hh rfl)]
    rw [e1] at H1
    have es := shr_nat y k
    have hb : y / 2 ^ k ≤ y := Nat.div_le_self _ _
    obtain ⟨f1, f2⟩ := ufS_nat hy
    rw [Int.toNat_natCast]
    generalize y / 2 ^ k = z at *
    have hy2 : y ≤ 4294967295 := by omega
    have t : decide ((z : Int) < 24) = false := decide_eq_false (by omega)
    have E2 := Lib.hid e2
    have F1 := Lib.hid f1; have F2 := Lib.hid f2
    clear e e1 e2 hy hc V f1 f2
    have HU := Lib.hid H1; clear H1
    go_enter Try.func38, Try.ntmps38
    go_wp2_with (go_at_call 40; refine (qat_any _ _ _ H.out.c1).mono ?_; rintro e w' ⟨rfl, rfl⟩)
    refine HU.out.mono ?_
    rintro e w1 ⟨rfl, r1, u1⟩
    have R1 := Lib.hid r1; have U1 := Lib.hid u1; clear r1 u1
    go_wp2_with fail
    refine (HG32.out p hp w1 R1.out).mono ?_
    rw [E2.out]
    rintro e w2 ⟨rfl, r2, u2⟩
    have R2 := Lib.hid r2; have U2 := Lib.hid (U1.out.trans u2 (fun _ _ h => h)); clear r2 u2
    go_wp2_with fail
    refine (rUnfold_any _ w2).mono ?_
    rintro e w3 ⟨rfl, rfl⟩
    rw [F1.out, F2.out]
    go_wp2
    go_ret2
    exact ⟨rfl, R2.out, U2.out⟩
theorem rGet_nil (k : Int) (w : World) : Calls Try.prog 38 #[.pointer none, .int .i64 k] w fun e w' => e = .returned (.tuple #[.int .i64 0, .int .i64 1]) ∧ w = w' := by
  go_enter Try.func38, Try.ntmps38
  go_wp2
  go_ret2
  exact ⟨rfl, rfl⟩
end Go.Proofs.Ytmdladcfckoglaa
