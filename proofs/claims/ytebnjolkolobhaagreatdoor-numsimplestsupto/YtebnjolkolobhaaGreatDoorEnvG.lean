/-
  What num's calls want of the world.
-/
import Derived.Test.YtebnjolkolobhaaGreatDoorAll8
/- ==== EnvS ==== -/
namespace Go.Proofs.YtebnjolkolobhaaGreatDoor
open Go.RowKit
set_option linter.unusedVariables false
/-- What the calls want of the world. -/
def Env (w : World) : Prop := (∃ m : Int, w.cell? ⟨0, 0, none⟩ = some (.int .i64 m)) ∧ Tab w ∧ Pows w
theorem Env.below {w W : World} (h : Env w) (b : Below w.heap.size w W) : Env W := by
  obtain ⟨⟨m, hM⟩, hT, hP⟩ := h
  exact ⟨⟨m, by rw [b.cell (World.block_lt_of_cell? w _ hM)]; exact hM⟩, hT.below b, hP.below b⟩
end Go.Proofs.YtebnjolkolobhaaGreatDoor
