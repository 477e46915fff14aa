/-
  How arguments that came in are handed to the walks: slices of integers and of bools.
-/
import Derived.Test.YtldcekejbnhloaaDoorRows
import Derived.WalkKit
import Derived.ProofKit
import Derived.OpenShut
import Derived.ShutString
import Derived.ChangeOld
import Derived.Below
import Derived.Deep.Grids
namespace Go.Proofs.YtldcekejbnhloaaDoor
open Go.RowKit

/-- A slice of integers of the kind k whose elements are zs. -/
def KIntsR (k : IntKind) (w : World) (a : Option Addr) (zs : List Int) : Prop :=
  zs.length = 0 ∨ ∃ b off, a = some ⟨b, off, none⟩ ∧ b < w.heap.size ∧ ∀ j, j < zs.length → w.cell? ⟨b, off + j, none⟩ = some (.int k (zs.getD j 0))
def KBoolsR (w : World) (a : Option Addr) (zs : List Bool) : Prop :=
  zs.length = 0 ∨ ∃ b off, a = some ⟨b, off, none⟩ ∧ b < w.heap.size ∧ ∀ j, j < zs.length → w.cell? ⟨b, off + j, none⟩ = some (.bool (zs.getD j false))

theorem kints_of {k : IntKind} {w : World} {x : Addr} {len cap : Nat} {zs : List Int} (hl : len ≤ cap) (hz : zs.length = cap) (hc : ∀ i, i < zs.length → w.cell? (x.add i) = some (.int k (zs.getD i 0))) :
    KIntsR k w (some x) (zs.take len) := by
  by_cases h0 : len = 0
  · left; simp [h0]
  obtain ⟨b, off, spot⟩ := x
  have hc0 := hc 0 (by omega)
  have hspot : spot = none := by simpa [Addr.add] using World.cell?_spot hc0
  subst hspot
  refine .inr ⟨b, off, rfl, World.block_lt_of_cell? w _ hc0, fun j hj => ?_⟩
  have hj1 : j < len := by simp at hj; omega
  have := hc j (by omega)
  rw [show (zs.take len).getD j 0 = zs.getD j 0 by simp [List.getD, hj1]]
  rw [Addr.add_lit] at this
  exact this
theorem kbools_of {w : World} {x : Addr} {len cap : Nat} {B : Nat → Bool} (hl : len ≤ cap) (hc : ∀ i, i < cap → w.cell? (x.add i) = some (.bool (B i))) :
    KBoolsR w (some x) ((List.range len).map B) := by
  by_cases h0 : len = 0
  · left; simp [h0]
  obtain ⟨b, off, spot⟩ := x
  have hc0 := hc 0 (by omega)
  have hspot : spot = none := by simpa [Addr.add] using World.cell?_spot hc0
  subst hspot
  refine .inr ⟨b, off, rfl, World.block_lt_of_cell? w _ hc0, fun j hj => ?_⟩
  have hj1 : j < len := by simpa using hj
  have := hc j (by omega)
  rw [show ((List.range len).map B).getD j false = B j by simp [List.getD, hj1]]
  rw [Addr.add_lit] at this
  exact this
end Go.Proofs.YtldcekejbnhloaaDoor
