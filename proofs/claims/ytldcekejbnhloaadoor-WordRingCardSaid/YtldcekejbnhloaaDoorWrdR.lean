/-
  Layer word: a calculator's calls with slices of numbers wherever they lie, for regions that draw their order.
-/
import Derived.Test.YtldcekejbnhloaaDoorWrdM
set_option linter.unusedSectionVars false
set_option linter.unusedVariables false
namespace Go.Proofs.YtldcekejbnhloaaDoor.Words
open Go.RowKit Go.Lib Ops
open Go.RowKit (Below)

theorem NumsR.more {w : World} {a : Option Addr} {ns : List Nat} (h : NumsR w a ns) (o : Obj) : NumsR (w.alloc o) a ns := h.below ((Below.refl _ _).alloc (Nat.le_refl _) o)
theorem NumsR.drawn {w : World} {a : Option Addr} {ns : List Nat} (h : NumsR w a ns) : NumsR w.drew a ns := h.below (Below.refl _ _).drew
/-- The world w' came of the world w, whose blocks it has all. -/
def Step (w w' : World) : Prop := Below w.heap.size w w'
theorem NumsR.step {w w' : World} {a : Option Addr} {ns : List Nat} (hb : Step w w') (h : NumsR w a ns) : NumsR w' a ns := h.below hb
theorem comm_ok {o : Nat} (h : commN o = true) : okOp o ∧ arityN o = 2 := by
  simp [commN] at h
  have ho : okOp o := by unfold okOp; omega
  have := arityN_ok ho
  exact ⟨ho, by omega⟩
theorem ring_ok {i : Nat} (h : i < 5) : okOp (ringOp i) ∧ arityN (ringOp i) = 2 ∧ ringOp i ≤ 255 := by
  rcases (show i = 0 ∨ i = 1 ∨ i = 2 ∨ i = 3 ∨ i = 4 by omega) with rfl | rfl | rfl | rfl | rfl <;> decide
theorem over_ok {i : Nat} (h : i < 4) : okOp (overA i) ∧ arityN (overA i) = 2 ∧ okOp (overB i) ∧ arityN (overB i) = 2 := by
  rcases (show i = 0 ∨ i = 1 ∨ i = 2 ∨ i = 3 by omega) with rfl | rfl | rfl | rfl <;> decide
section
variable {w1 : World} {W p : Nat} (h1 : 1 ≤ W) (h : W ≤ 64) (hp : Calc w1 p W) (he : OpEnv w1)
include h1 h hp he
theorem of_R {o x y r : Nat} (ho : okOp o) (hl : arityN o = 2) (hx : x < 18446744073709551616) (hy : y < 18446744073709551616) (hr : vv W o x y 0 = r) : ∀ W' g, Hid (Below w1.heap.size w1 W') → NumsR W' (some ⟨g, 0, none⟩) [x, y] →
    Calls Tryd.prog 25 #[.pointer (some ⟨p, 0, none⟩), .int .u8 (o : Int), .slice (some ⟨g, 0, none⟩) 2 2] W' fun e w' => e = .returned (.int .u64 (r : Int)) ∧ Hid (Below w1.heap.size w1 w') ∧ Step W' w' := fun W' g hW hN => by
  subst hr
  refine (of_any h1 h o ho [x, y] (by simp; omega) hl.symm (some ⟨g, 0, none⟩) 2 W' (hp.below hW.out hp.lt) hN (he.below hW.out)).mono ?_
  rintro e w' ⟨h8, hb⟩
  exact ⟨h8, hW.out.trans (hb.mono hW.out.size), hb⟩
end
end Go.Proofs.YtldcekejbnhloaaDoor.Words
