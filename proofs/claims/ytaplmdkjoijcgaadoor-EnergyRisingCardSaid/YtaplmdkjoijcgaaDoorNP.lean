/- bands: the first span behind an element -/
import Derived.Test.YtaplmdkjoijcgaaDoorNO
namespace Go.Proofs.YtaplmdkjoijcgaaDoor
open Go.RowKit Go.Shelf

set_option maxRecDepth 100000 in
theorem band1_any (f t i : Int) (B : Nat) (w : World) (hb : w.cell? ⟨B, 0, none⟩ = some (.int .i64 i)) :
    Calls Tryd.prog 61 #[.agg #[.int .i64 f, .int .i64 t], .pointer (some ⟨B, 0, none⟩)] w fun e w' => e = .returned (.bool (decide (i < t))) ∧ Upd NoB w w' := by
  have hb2 : (w.alloc (.cells #[.int .i64 f, .int .i64 t] 66)).cell? ⟨B, 0, none⟩ = some (.int .i64 i) := ((Upd.refl NoB w).alloc _).cell hb (noB _)
  go_enter Tryd.func61, Tryd.ntmps61
  go_wp2_with fail
  go_ret
  exact ⟨rfl, (Upd.refl _ _).alloc _⟩
/-- The spans lie there. -/
def SpAt (w : World) (g : Nat) (ws : List Int) (C : Nat) : Prop := ∀ j, j < C → w.cell? ⟨g, j * 2, none⟩ = some (.int .i64 (spT ws j)) ∧ w.cell? ⟨g, j * 2 + 1, none⟩ = some (.int .i64 (spT ws (j + 1)))
theorem SpAt.later {w w' : World} {g : Nat} {ws : List Int} {C : Nat} (h : SpAt w g ws C) (u : Upd NoB w w') : SpAt w' g ws C := fun j hj => ⟨u.cell (h j hj).1 (noB _), u.cell (h j hj).2 (noB _)⟩
set_option maxRecDepth 100000 in
set_option maxHeartbeats 2000000 in
theorem indexFunc_any (g C c : Nat) (ws : List Int) (i : Int) (B : Nat) (w : World) (hC : C ≤ 1000) (hs : SpAt w g ws C) (hb : w.cell? ⟨B, 0, none⟩ = some (.int .i64 i)) :
    Calls Tryd.prog 59 #[.slice (some ⟨g, 0, none⟩) C c, .func (.func 61) #[] #[.pointer (some ⟨B, 0, none⟩)]] w fun e w' =>
      (∃ r : Int, e = .returned (.int .i64 r) ∧ ((∃ k : Nat, k < C ∧ r = (k : Int) ∧ (∀ j, j < k → spT ws (j + 1) ≤ i) ∧ i < spT ws (k + 1)) ∨ (∀ j, j < C → spT ws (j + 1) ≤ i))) ∧ Upd NoB w w' := by
  have HS := Lib.hid hs; have HB := Lib.hid hb
  clear hs hb
  go_enter Tryd.func59, Tryd.ntmps59
  go_wp2_with fail
  go_loopw [8] (fun x wr => ∃ k : Nat, k ≤ C ∧ x = .int .i64 k ∧ (∀ j, j < k → spT ws (j + 1) ≤ i) ∧ Upd NoB w wr) (fun x _ => C - (intOf x).toNat)
  case atStart => exact ⟨0, Nat.zero_le _, rfl, fun j hj => by omega, Upd.refl _ _⟩
  case round =>
    obtain ⟨k, hk, rfl, hno, hu⟩ := hrel
    have HNo := Lib.hid hno; have HU := Lib.hid hu
    clear hno
    by_cases hlt : k < C
    · obtain ⟨c0, c1⟩ := (HS.out.later hu) k hlt
      have HBr := Lib.hid (hu.cell HB.out (noB _))
      have HMo := Lib.hid (fun (h : spT ws (k + 1) ≤ i) => show ∀ j, j < k + 1 → spT ws (j + 1) ≤ i from fun j hj => by
        by_cases e : j = k
        · subst e; exact h
        · exact HNo.out j (by omega))
      have HFo := Lib.hid (fun (h : i < spT ws (k + 1)) => show ∃ k' : Nat, k' < C ∧ ((k : Nat) : Int) = (k' : Int) ∧ (∀ j, j < k' → spT ws (j + 1) ≤ i) ∧ i < spT ws (k' + 1) from ⟨k, hlt, rfl, HNo.out, h⟩)
      generalize spT ws (k + 1) = t at *
      generalize spT ws k = f at *
      clear hu
      have HCa := Lib.hid (band1_any f t i B wr HBr.out)
      by_cases hit : i < t
      · have HD := Lib.hid (show decide (i < t) = true from decide_eq_true hit)
        rw [HD.out] at HCa
        have HFo2 := Lib.hid (HFo.out hit)
        clear hit
        go_wp2_with fail
        refine HCa.out.mono ?_
        rintro e w2 ⟨rfl, u2⟩
        have U2 := Lib.hid (HU.out.then u2)
        clear u2
        go_wp2_with fail
        go_ret
        exact ⟨⟨_, rfl, .inl HFo2.out⟩, U2.out⟩
      · have HD := Lib.hid (show decide (i < t) = false from decide_eq_false hit)
        rw [HD.out] at HCa
        have HMo2 := Lib.hid (HMo.out (by omega))
        clear hit
        go_wp2_with fail
        refine HCa.out.mono ?_
        rintro e w2 ⟨rfl, u2⟩
        have U2 := Lib.hid (HU.out.then u2)
        clear u2
        go_wp2_with fail
        go_roundw
        case rel => exact ⟨k + 1, by omega, by go_num, HMo2.out, U2.out⟩
        case measure => simp [intOf]; omega
    · obtain rfl : k = C := by omega
      clear hu
      go_wp2_with fail
      go_ret
      exact ⟨⟨_, rfl, .inr HNo.out⟩, HU.out⟩
end Go.Proofs.YtaplmdkjoijcgaaDoor
