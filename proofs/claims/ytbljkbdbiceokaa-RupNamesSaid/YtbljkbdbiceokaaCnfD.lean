/-
  'three' and 'known': the closed example that each statement of layer 2 ends with.
-/
import Derived.Test.YtbljkbdbiceokaaCnfC
namespace Go.Proofs.Ytbljkbdbiceokaa
open Go.RowKit Go.Lib
open Go.RowKit (Below)

/-- A slice of slices of the call's own, in block g: its cells may be written. -/
structure Grid (w : World) (B g : Nat) (zss : List (List Int)) : Prop where
  base : B ≤ g
  lt : g < w.heap.size
  cells : ∀ j z, zss[j]? = some z → ∃ h c, w.cell? ⟨g, j, none⟩ = some (.slice h z.length c) ∧ KI .i64 w h z ∧ (∀ p, h = some p → p.block ≠ g) ∧ z.length ≤ c ∧ c ≤ maxLen
  free : ∀ j, w.frozen? ⟨g, j, none⟩ = false
theorem Grid.rows {w : World} {B g : Nat} {zss : List (List Int)} (h : Grid w B g zss) : RowsR .i64 w (some ⟨g, 0, none⟩) zss := by
  refine .inr ⟨g, 0, rfl, h.lt, fun j hj => ?_⟩
  obtain ⟨a, c, h1, h2, _, h3⟩ := h.cells j _ (getD_some zss [] j hj)
  exact ⟨a, c, by rw [Nat.zero_add]; exact h1, h2, h3⟩

theorem small_is {zss : List (List Int)} {l : Nat} {r : Bool} (hl : zss.length = l) (hr : smallB zss = r) (n : Int) (a : Option Addr) (c : Nat) (w : World) (hm : l ≤ maxLen) (hA : AllLen zss) (h : RowsR .i64 w a zss) :
    Calls Try.prog 21 #[.agg #[.int .i64 n, .slice a l c]] w fun e w' => e = .returned (.bool r) ∧ Below w.heap.size w w' := by
  subst hl hr; exact small_any n a c zss w hm hA h

/-- The formula of the examples. -/
def threeL : List (List Int) := [[1, 2], [-1, 3], [-2, -3]]
theorem threeL_len : threeL.length = 3 := rfl
theorem threeL_all : AllLen threeL := by
  intro z hz
  simp [threeL] at hz
  rcases hz with rfl | rfl | rfl <;> (unfold maxLen; simp)

def W1 (w : World) (o : Obj) : World := (((w.alloc o).alloc (.cells #[.int .i64 1, .int .i64 2] 3)).alloc (.cells #[.int .i64 (-1), .int .i64 3] 3)).alloc (.cells #[.int .i64 (-2), .int .i64 (-3)] 3)
theorem W1_size (w : World) (o : Obj) : (W1 w o).heap.size = w.heap.size + 4 := by simp [W1]
theorem W1_below (w : World) (o : Obj) : Below w.heap.size w (W1 w o) :=
  ((((Below.refl _ _).alloc (Nat.le_refl _) _).alloc (by simp) _).alloc (by simp; omega) _).alloc (by simp; omega) _
theorem three_grid (w : World) (o : Obj) : Grid ((W1 w o).alloc (.cells #[.slice (some ⟨w.heap.size + 1, 0, none⟩) 2 2, .slice (some ⟨w.heap.size + 1 + 1, 0, none⟩) 2 2, .slice (some ⟨w.heap.size + 1 + 1 + 1, 0, none⟩) 2 2] 23)) w.heap.size (w.heap.size + 1 + 1 + 1 + 1) threeL := by
  refine ⟨by omega, by simp [W1_size], ?_, fun j => World.frozen?_alloc_at _ _ _ _ (by rw [W1_size])⟩
  intro j z hz
  have k1 : KI .i64 (W1 w o) (some ⟨w.heap.size + 1, 0, none⟩) [1, 2] := by
    unfold W1
    exact ((KI.of (IntsR.lit _ _ _ _ (by simp) rfl)).alloc _).alloc _
  have k2 : KI .i64 (W1 w o) (some ⟨w.heap.size + 1 + 1, 0, none⟩) [-1, 3] := by
    unfold W1
    exact (KI.of (IntsR.lit _ _ _ _ (by simp) rfl)).alloc _
  have k3 : KI .i64 (W1 w o) (some ⟨w.heap.size + 1 + 1 + 1, 0, none⟩) [-2, -3] := by
    unfold W1
    exact KI.of (IntsR.lit _ _ _ _ (by simp) rfl)
  rw [World.cell?_alloc_at _ _ _ _ (by rw [W1_size])]
  match j, hz with
  | 0, hz => cases hz; exact ⟨_, 2, rfl, k1.alloc _, (fun p hp => by cases hp; simp), by decide, by decide⟩
  | 1, hz => cases hz; exact ⟨_, 2, rfl, k2.alloc _, (fun p hp => by cases hp; simp), by decide, by decide⟩
  | 2, hz => cases hz; exact ⟨_, 2, rfl, k3.alloc _, (fun p hp => by cases hp; simp), by decide, by decide⟩
  | n + 3, hz => simp [threeL] at hz

theorem three_check : checkF 3 threeL = 0 := by decide +kernel
theorem three_first : firstN 3 [true, false, true] threeL = -1 ∧ firstE 3 [true, false, true] threeL = 0 := by decide +kernel
theorem BoolsR.some (w : World) (vs : Array Value) (T : TypeId) (zs : List Bool) {b : Nat} (hb : b = w.heap.size) (h : vs.toList = zs.map Value.bool) : BoolsR (w.alloc (.cells vs T)) (some ⟨b, 0, none⟩) zs := BoolsR.lit w vs T zs hb h

end Go.Proofs.Ytbljkbdbiceokaa
