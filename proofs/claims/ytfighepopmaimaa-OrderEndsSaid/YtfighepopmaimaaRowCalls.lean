/-
  How an argument that came in is handed to the walks: a slice of structs of three integers.
-/
import Derived.Test.YtfighepopmaimaaRowHelp
import Derived.Test.YtfighepopmaimaaOrdT
import Derived.Deep.Slices
import Derived.Deep.Fields
import Derived.ChangeSame
namespace Go.Proofs.Ytfighepopmaimaa
open Go.RowKit Go.ChangeShapes Go.WideShapes Go.Deep

section
variable {H : Type} {enc : TypeId × Value → H} {P : Program} {w : World} {base : Nat} {held : Bool}
/-- One of them: its three cells. -/
theorem one_call {e : TypeId} {f0 f1 f2 : Field} {fuel : Nat} {a : Addr} {cs : List Value} {x : DataW H × List MemPlace} {sp : Nat → Bool} (he : P.underlying e = some (.struct #[f0, f1, f2])) (hone : oneCellFields P #[f0, f1, f2] = true)
    (h0 : P.underlying f0.type = some (.int .u8)) (h1 : P.underlying f1.type = some (.int .i64)) (h2 : P.underlying f2.type = some (.int .i64))
    (hc : w.cells? base a 3 = some cs) (h : DataW.trod enc P w base sp held fuel e cs = some x) :
    ∃ t : Int × Int × Int, w.cell? (a.add 0) = some (.int .u8 t.1) ∧ w.cell? (a.add 1) = some (.int .i64 t.2.1) ∧ w.cell? (a.add 2) = some (.int .i64 t.2.2) ∧ (0 ≤ t.1 ∧ t.1 ≤ 255) := by
  obtain ⟨_, hl, hat⟩ := World.cells?_some hc
  obtain ⟨ys, n, _, _, _, hyl, hf⟩ := DataW.trod_struct he h
  match cs, hl with
  | [c0, c1, c2], _ =>
    have hys : ∀ i, i < 3 → ∃ y, ys[i]? = some y := fun i hi => ⟨_, List.getElem?_eq_getElem (by rw [hyl]; exact hi)⟩
    obtain ⟨o0, k0⟩ := hone_of hone 0 f0 rfl
    obtain ⟨o1, k1⟩ := hone_of hone 1 f1 rfl
    obtain ⟨o2, k2⟩ := hone_of hone 2 f2 rfl
    obtain ⟨y0, e0⟩ := hys 0 (by omega)
    obtain ⟨y1, e1⟩ := hys 1 (by omega)
    obtain ⟨y2, e2⟩ := hys 2 (by omega)
    have g0 := hf 0 f0 rfl
    have g1 := hf 1 f1 rfl
    have g2 := hf 2 f2 rfl
    rw [o0, k0, e0] at g0
    rw [o1, k1, e1] at g1
    rw [o2, k2, e2] at g2
    obtain ⟨x0, z0, _, w0⟩ := DataW.trod_int h0 g0
    obtain ⟨x1, z1, _, _⟩ := DataW.trod_int h1 g1
    obtain ⟨x2, z2, _, _⟩ := DataW.trod_int h2 g2
    have z0' : c0 = .int .u8 x0 := by simpa using z0
    have z1' : c1 = .int .i64 x1 := by simpa using z1
    have z2' : c2 = .int .i64 x2 := by simpa using z2
    subst z0' z1' z2'
    refine ⟨(x0, x1, x2), hat 0 (by omega), hat 1 (by omega), hat 2 (by omega), ?_⟩
    simpa [Lit.wf, IntKind.min, IntKind.max, IntKind.bits, IntKind.signed] using w0
theorem open_calls {t e : TypeId} {f0 f1 f2 : Field} {fuel : Nat} {v : Value} {x : DataW H × List MemPlace} (ht : P.underlying t = some (.slice e)) (he : P.underlying e = some (.struct #[f0, f1, f2])) (hone : oneCellFields P #[f0, f1, f2] = true) (hC : P.cellsOf e = 3)
    (h0 : P.underlying f0.type = some (.int .u8)) (h1 : P.underlying f1.type = some (.int .i64)) (h2 : P.underlying f2.type = some (.int .i64)) (h : DataW.trod enc P w base (fun _ => true) held fuel t [v] = some x) :
    ∃ (a : Option Addr) (c : Nat) (ts : List (Int × Int × Int)), v = .slice a ts.length c ∧ CallsR w a ts ∧ CallsWf ts ∧ ts.length ≤ maxLen := by
  rcases open_slice ht h with ⟨hcs, _⟩ | ⟨a, len, cap, m, n, D, Pl, hcs, _, hl, hm, hmm, _, hi⟩
  · exact ⟨none, 0, [], by simpa using hcs, .inl rfl, (fun t ht => by cases ht), by simp [maxLen]⟩
  · have hv : v = .slice (some a) len cap := by simpa using hcs
    subst hv
    have hmc : m = cap := by simpa using hmm
    subst hmc
    have hget : ∀ i, i < len → ∃ t : Int × Int × Int, w.cell? (a.add (i * 3)) = some (.int .u8 t.1) ∧ w.cell? (a.add (i * 3 + 1)) = some (.int .i64 t.2.1) ∧ w.cell? (a.add (i * 3 + 2)) = some (.int .i64 t.2.2) ∧ (0 ≤ t.1 ∧ t.1 ≤ 255) := fun i hil => by
      obtain ⟨cs', hc, ht'⟩ := hi i (by omega)
      rw [hC] at hc
      obtain ⟨t, g0, g1, g2, g3⟩ := one_call he hone h0 h1 h2 hc ht'
      rw [Go.Deep.add_add] at g0 g1 g2
      exact ⟨t, g0, g1, g2, g3⟩
    obtain ⟨T, hT⟩ : ∃ T : Nat → Int × Int × Int, ∀ i, i < len → w.cell? (a.add (i * 3)) = some (.int .u8 (T i).1) ∧ w.cell? (a.add (i * 3 + 1)) = some (.int .i64 (T i).2.1) ∧ w.cell? (a.add (i * 3 + 2)) = some (.int .i64 (T i).2.2) ∧ (0 ≤ (T i).1 ∧ (T i).1 ≤ 255) :=
      ⟨fun i => if h : i < len then Classical.choose (hget i h) else (0, 0, 0), fun i hi => by simp only [dif_pos hi]; exact Classical.choose_spec (hget i hi)⟩
    refine ⟨some a, m, (List.range len).map T, by simp, ?_, ?_, by simp; omega⟩
    · by_cases hz : len = 0
      · left; simp [hz]
      obtain ⟨b, off, spot⟩ := a
      have hc0 := (hT 0 (by omega)).1
      have hspot : spot = none := by simpa [Addr.add] using World.cell?_spot hc0
      subst hspot
      refine .inr ⟨b, off, rfl, World.block_lt_of_cell? w _ hc0, fun j hj => ?_⟩
      have hj1 : j < len := by simpa using hj
      obtain ⟨g0, g1, g2, _⟩ := hT j hj1
      rw [Addr.add_lit] at g0 g1 g2
      rw [show ((List.range len).map T).getD j (0, 0, 0) = T j by simp [List.getD, hj1]]
      exact ⟨g0, g1, g2⟩
    · intro t ht
      obtain ⟨j, hj, rfl⟩ := List.mem_map.1 ht
      exact (hT j (List.mem_range.1 hj)).2.2.2
end
end Go.Proofs.Ytfighepopmaimaa
