/- rice: the law of Fold and Unfold -/
import Derived.Test.YtjnbnhnkjhnbkaaKQ
namespace Go.Proofs.Ytjnbnhnkjhnbkaa
open Go.RowKit Go.Shelf

theorem fold_cases (v : Int) : (foldE v = 0 ∧ ufS (foldS v) = v ∧ ufE (foldS v) = 0) ∨ (foldE v = 6 ∧ foldS v = 0) := by
  cases h : isNum v with
  | true =>
    left
    have e1 : foldS v = (fo v : Nat) := by unfold foldS; rw [h]; rfl
    obtain ⟨f1, f2⟩ := ufS_nat (fo_lt h)
    rw [e1, f1, f2]
    exact ⟨by unfold foldE; rw [h]; rfl, uf_fo, rfl⟩
  | false => exact .inr ⟨by unfold foldE; rw [h]; rfl, by unfold foldS; rw [h]; rfl⟩
theorem unfold_cases (u : Int) : (ufE u = 0 ∧ foldS (ufS u) = u ∧ foldE (ufS u) = 0) ∨ (ufE u = 6 ∧ ufS u = 0) := by
  by_cases h : 0 ≤ u ∧ u ≤ 4294967295
  · left
    have e1 : ufS u = uf u.toNat := if_pos h
    have hn := uf_num (show u.toNat < 4294967296 by omega)
    rw [e1]
    refine ⟨if_pos h, ?_, ?_⟩
    · unfold foldS; rw [hn, if_pos rfl, fo_uf]; omega
    · unfold foldE; rw [hn]; rfl
  · exact .inr ⟨if_neg h, if_neg h⟩
set_option maxRecDepth 100000 in
set_option maxHeartbeats 4000000 in
theorem folds_law (v u : Int) (w : World) : Calls Try.prog 3 #[.int .i64 v, .int .i64 u] w fun e w' => e = .returned (.bool true) ∧ Upd NoB w w' := by
  have HF := Lib.hid (fun w' => Fold_any v w')
  have HG := Lib.hid (fun w' => rFold_any v w')
  have HU := Lib.hid (fun w' => Unfold_any u w')
  have HV := Lib.hid (fun w' => rUnfold_any u w')
  have HF2 := Lib.hid (fun w' => Fold_any (ufS u) w')
  have HU2 := Lib.hid (fun w' => Unfold_any (foldS v) w')
  have cv := fold_cases v
  have cu := unfold_cases u
  generalize foldS v = A at *
  generalize foldE v = E at *
  generalize ufS u = B at *
  generalize ufE u = F at *
  rcases cv with ⟨rfl, h1, h2⟩ | ⟨rfl, _⟩
  all_goals rcases cu with ⟨rfl, h3, h4⟩ | ⟨rfl, _⟩
  · rw [h1, h2] at HU2
    rw [h3, h4] at HF2
    clear h1 h2 h3 h4
    go_enter Try.func3, Try.ntmps3
    go_wp2_with (first | (go_at_call 12; (with_reducible refine (HF.out _).mono ?_); rintro e w' ⟨rfl, rfl⟩) | (go_at_call 13; refine (HG.out _).mono ?_; rintro e w' ⟨rfl, rfl⟩) | (go_at_call 14; (with_reducible refine (HU.out _).mono ?_); rintro e w' ⟨rfl, rfl⟩) | (go_at_call 15; refine (HV.out _).mono ?_; rintro e w' ⟨rfl, rfl⟩) | (go_at_call 12; (with_reducible refine (HF2.out _).mono ?_); rintro e w' ⟨rfl, rfl⟩) | (go_at_call 14; (with_reducible refine (HU2.out _).mono ?_); rintro e w' ⟨rfl, rfl⟩) | (go_at_call 16; refine (kawake_any _).mono ?_; rintro e w' ⟨rfl, u9⟩; have U9 := Lib.hid u9; clear u9))
    go_ret
    exact ⟨rfl, U9.out⟩
  · rw [h1, h2] at HU2
    clear h1 h2 HF2
    go_enter Try.func3, Try.ntmps3
    go_wp2_with (first | (go_at_call 12; (with_reducible refine (HF.out _).mono ?_); rintro e w' ⟨rfl, rfl⟩) | (go_at_call 13; refine (HG.out _).mono ?_; rintro e w' ⟨rfl, rfl⟩) | (go_at_call 14; (with_reducible refine (HU.out _).mono ?_); rintro e w' ⟨rfl, rfl⟩) | (go_at_call 15; refine (HV.out _).mono ?_; rintro e w' ⟨rfl, rfl⟩) | (go_at_call 14; (with_reducible refine (HU2.out _).mono ?_); rintro e w' ⟨rfl, rfl⟩) | (go_at_call 16; refine (kawake_any _).mono ?_; rintro e w' ⟨rfl, u9⟩; have U9 := Lib.hid u9; clear u9))
    go_ret
    exact ⟨rfl, U9.out⟩
  · rw [h3, h4] at HF2
    clear h3 h4 HU2
    go_enter Try.func3, Try.ntmps3
    go_wp2_with (first | (go_at_call 12; (with_reducible refine (HF.out _).mono ?_); rintro e w' ⟨rfl, rfl⟩) | (go_at_call 13; refine (HG.out _).mono ?_; rintro e w' ⟨rfl, rfl⟩) | (go_at_call 14; (with_reducible refine (HU.out _).mono ?_); rintro e w' ⟨rfl, rfl⟩) | (go_at_call 15; refine (HV.out _).mono ?_; rintro e w' ⟨rfl, rfl⟩) | (go_at_call 12; (with_reducible refine (HF2.out _).mono ?_); rintro e w' ⟨rfl, rfl⟩) | (go_at_call 16; refine (kawake_any _).mono ?_; rintro e w' ⟨rfl, u9⟩; have U9 := Lib.hid u9; clear u9))
    go_ret
    exact ⟨rfl, U9.out⟩
  · clear HF2 HU2
    go_enter Try.func3, Try.ntmps3
    go_wp2_with (first | (go_at_call 12; (with_reducible refine (HF.out _).mono ?_); rintro e w' ⟨rfl, rfl⟩) | (go_at_call 13; refine (HG.out _).mono ?_; rintro e w' ⟨rfl, rfl⟩) | (go_at_call 14; (with_reducible refine (HU.out _).mono ?_); rintro e w' ⟨rfl, rfl⟩) | (go_at_call 15; refine (HV.out _).mono ?_; rintro e w' ⟨rfl, rfl⟩) | (go_at_call 16; refine (kawake_any _).mono ?_; rintro e w' ⟨rfl, u9⟩; have U9 := Lib.hid u9; clear u9))
    go_ret
    exact ⟨rfl, U9.out⟩
end Go.Proofs.Ytjnbnhnkjhnbkaa
