/-
  Layer op's rows list the operators' table: what the condition gives, and the door's own world.
-/
import Derived.Test.YtldcekejbnhloaaDoorRowLaidG
import Derived.Test.YtldcekejbnhloaaDoorOpA
namespace Go.Proofs.YtldcekejbnhloaaDoor
open Go.RowKit Go.Lib

def laidL : List (String × DataW Unit) := Ops.opLaid
abbrev Env := Ops.OpEnv
theorem env_of_laid {W : World} (h : laidMetH Tryd.prog laidL W) (_ : W.ShapedOpen Tryd.prog) : Env W := by
  rw [MakeChecks.laidMetH_plain _ _ _ (by kernel_rfl)] at h
  exact Ops.opEnv_of_laid h
/-- The door's own heap meets the condition. -/
theorem door_met (os : Os) (args : Array Value) : laidMetH Tryd.prog laidL ((World.doorLaid Tryd.prog 400 os).forCall (fun _ _ => 0) ⟨#[], args, []⟩).memory := by
  rw [MakeChecks.laidMetH_plain _ _ _ (by kernel_rfl)]
  exact laidMet_of_run' 8 (by kernel_rfl) (by kernel_rfl)
end Go.Proofs.YtldcekejbnhloaaDoor
