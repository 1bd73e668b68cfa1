/- undoing: the calls -/
import Derived.Test.YtpmhioaoniijbaaDoorJXm
namespace Go.Proofs.YtpmhioaoniijbaaDoor
open Go.RowKit Go.Shelf

theorem undo1c {X Y n d : Int} (he : ttE 1073741824 X Y n d = 0) (w : World) (hp : Parts w) : Calls Tryd.prog 20 #[.int .i64 (turnV X Y n d).1, .int .i64 (turnV X Y n d).2, .int .i64 n, .int .i64 d] w fun e w' =>
    e = .returned (.tuple #[.int .i64 X, .int .i64 Y, .int .i64 0]) ∧ Upd NoB w w' := by
  obtain ⟨g1, g2⟩ := undo1 he
  have t := backT_any (turnV X Y n d).1 (turnV X Y n d).2 n d w hp
  rw [g1, g2] at t
  exact t
theorem undo2c {X Y n d : Int} (he : ttE 4294967296 X Y n d = 0) (w : World) (hp : Parts w) : Calls Tryd.prog 18 #[.int .i64 (backV X Y n d).1, .int .i64 (backV X Y n d).2, .int .i64 n, .int .i64 d] w fun e w' =>
    ∃ y1 y2 ee : Int, e = .returned (.tuple #[.int .i64 y1, .int .i64 y2, .int .i64 ee]) ∧ (ee = 0 → y1 = X ∧ y2 = Y) ∧ Upd NoB w w' :=
  (turn_any _ _ n d w hp).mono fun _ _ ⟨h, hu⟩ => ⟨_, _, _, h, fun g => by rw [undo2 he g]; exact ⟨rfl, rfl⟩, hu⟩
theorem undo3c {X Y : Int} (he : midE 1073741824 X Y = 0) (w : World) : Calls Tryd.prog 25 #[.int .i64 (midV X Y).1, .int .i64 (midV X Y).2] w fun e w' =>
    e = .returned (.tuple #[.int .i64 X, .int .i64 Y, .int .i64 0]) ∧ Upd NoB w w' := by
  obtain ⟨g1, g2⟩ := undo3 he
  have t := sides_any (midV X Y).1 (midV X Y).2 w
  rw [g1, g2] at t
  exact t
end Go.Proofs.YtpmhioaoniijbaaDoor
