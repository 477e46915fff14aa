/-
  How arguments that came in are handed to the walks: slices of slices of integers; a struct of an integer and such a slice.
-/
import Derived.Test.YtbljkbdbiceokaaRowHelp
import Derived.Test.YtbljkbdbiceokaaCnfA
import Derived.Deep.Matrix
import Derived.Lib.SmallJoins
namespace Go.Proofs.Ytbljkbdbiceokaa
open Go.RowKit Go.ChangeShapes Go.WideShapes Go.Deep

section
variable {H : Type} {enc : TypeId × Value → H} {P : Program} {w : World} {base : Nat} {held : Bool}
theorem open_rows {t e q : TypeId} {k : IntKind} {fuel : Nat} {v : Value} {x : DataW H × List MemPlace} (ht : P.underlying t = some (.slice e)) (he : P.underlying e = some (.slice q)) (hq : P.underlying q = some (.int k))
    (ce : P.cellsOf e = 1) (cq : P.cellsOf q = 1) (h : DataW.trod enc P w base (fun _ => true) held fuel t [v] = some x) :
    ∃ (a : Option Addr) (c : Nat) (zss : List (List Int)), v = .slice a zss.length c ∧ RowsR k w a zss ∧ AllLen zss ∧ zss.length ≤ maxLen ∧ ∀ z ∈ zss, ∀ n ∈ z, (Lit.int k n).wf = true := by
  rcases open_int_rows ht he hq ce cq h with ⟨hcs, _⟩ | ⟨a, len, cap, A, L, C, Z, hcs, _, hl, hm, _, hr⟩
  · refine ⟨none, 0, [], by simpa using hcs, .inl rfl, (by intro z hz; cases hz), (by simp [maxLen]), by intro z hz; cases hz⟩
  · have hv : v = .slice (some a) len cap := by simpa using hcs
    subst hv
    have hget : ∀ j, j < len → ((List.range len).map fun r => (Z r).take (L r)).getD j [] = (Z j).take (L j) := fun j hj => by simp [List.getD, hj]
    have hlenj : ∀ j, j < len → ((Z j).take (L j)).length = L j := fun j hj => by
      obtain ⟨_, h1, _, h3, _⟩ := hr j (by omega)
      rw [List.length_take]; omega
    refine ⟨some a, cap, (List.range len).map fun r => (Z r).take (L r), by simp, ?_, ?_, by simp; omega, ?_⟩
    · by_cases h0 : len = 0
      · left; simp [h0]
      obtain ⟨b, off, spot⟩ := a
      have hc0 := (hr 0 (by omega)).1
      have hspot : spot = none := by simpa [Addr.add] using World.cell?_spot hc0
      subst hspot
      refine .inr ⟨b, off, rfl, World.block_lt_of_cell? w _ hc0, fun j hj => ?_⟩
      have hj1 : j < len := by simpa using hj
      obtain ⟨g1, g2, g3, g4, _, g6, g7⟩ := hr j (by omega)
      rw [hget j hj1, hlenj j hj1]
      rw [Addr.add_lit] at g1
      refine ⟨A j, C j, g1, ?_, g2, g3⟩
      by_cases hl0 : L j = 0
      · left; rw [hlenj j hj1]; exact hl0
      cases hA : A j with
      | none => exfalso; have := g6 hA; omega
      | some a' =>
        obtain ⟨_, g8⟩ := g7 a' hA
        obtain ⟨b', off', spot'⟩ := a'
        have hc1 := g8 0 (by omega)
        have hspot' : spot' = none := by simpa [Addr.add] using World.cell?_spot hc1
        subst hspot'
        refine .inr ⟨b', off', rfl, World.block_lt_of_cell? w _ hc1, fun i hi => ?_⟩
        have hi1 : i < L j := by rw [hlenj j hj1] at hi; exact hi
        have := g8 i (by omega)
        rw [Addr.add_lit] at this
        rw [show ((Z j).take (L j)).getD i 0 = (Z j).getD i 0 by simp [List.getD, hi1]]
        exact this
    · intro z hz
      obtain ⟨j, hj, rfl⟩ := List.mem_map.1 hz
      have hj1 := List.mem_range.1 hj
      obtain ⟨_, h1, h2, _⟩ := hr j (by omega)
      rw [hlenj j hj1]; omega
    · intro z hz n hn
      obtain ⟨j, hj, rfl⟩ := List.mem_map.1 hz
      have hj1 := List.mem_range.1 hj
      exact (hr j (by omega)).2.2.2.2.1 n (List.mem_of_mem_take hn)

theorem open_formula {t e q f0t f1t : TypeId} {f0 f1 : Field} {r : Reach} {b0 : Nat} {v : Value} {d : DataW H} {p : List MemPlace} (hs : P.underlying t = some (.struct #[f0, f1])) (hone : oneCellFields P #[f0, f1] = true) (hC : P.cellsOf t = 2)
    (h0t : f0.type = f0t) (h1t : f1.type = f1t) (h0 : P.underlying f0t = some (.int .i64)) (h1 : P.underlying f1t = some (.slice e)) (he : P.underlying e = some (.slice q)) (hq : P.underlying q = some (.int .i64))
    (ce : P.cellsOf e = 1) (cq : P.cellsOf q = 1) (hv : Value.okWide P w r b0 t v) (h : DataW.Trod enc P w base (fun _ => true) held t v d p) :
    ∃ (n : Int) (a : Option Addr) (c : Nat) (zss : List (List Int)), v = .agg #[.int .i64 n, .slice a zss.length c] ∧ (Lit.int .i64 n).wf = true ∧ RowsR .i64 w a zss ∧ AllLen zss ∧ zss.length ≤ maxLen ∧ ∀ z ∈ zss, ∀ n ∈ z, (Lit.int .i64 n).wf = true := by
  subst h0t h1t
  obtain ⟨v0, v1, y0, y1, m, rfl, _, _, t0, t1⟩ := Go.Joins.open_agg2 hs hone hC hv h
  obtain ⟨n, e1, e2, hw⟩ := DataW.trod_int h0 t0
  obtain rfl : v0 = .int .i64 n := by simpa using e1
  obtain ⟨a, c, zss, rfl, g⟩ := open_rows h1 he hq ce cq t1
  exact ⟨n, a, c, zss, rfl, hw, g.1, g.2.1, g.2.2.1, g.2.2.2⟩
end
end Go.Proofs.Ytbljkbdbiceokaa
