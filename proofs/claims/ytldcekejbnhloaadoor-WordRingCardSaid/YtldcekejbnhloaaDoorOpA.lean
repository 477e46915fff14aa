/-
  Layer op: the operators' table as the program's variable holds it, and contracts of Arity, Name, Commutes, known, and of the reference's.
-/
import Derived.Test.YtldcekejbnhloaaDoorRows
import Derived.WalkKit
import Derived.ProofKit
import Derived.Lib.LaidTab
import Derived.Lib.Hide
import Derived.MapViews
import Derived.DeepKeys2
import Derived.Below
import Derived.KernelRfl
import Derived.Lib.Strings
namespace Go.Proofs.YtldcekejbnhloaaDoor.Ops
open Go.RowKit Go.Lib
open Go.RowKit (Below)

/-! A variable of plain data, whatever its type: its cells are the datum's. -/
theorem plain_cells {H : Type} {enc : TypeId × Value → H} {P : Program} {w : World} {base : Nat} {sp : Nat → Bool} {held : Bool} {fuel : Nat} {t : TypeId} {cs : List Value} {x : DataW H × List MemPlace} (m m' : Nat)
    (hk : P.keyTypeAt m t = true) (ht : P.tiled m' t = true) (h : DataW.trod enc P w base sp held fuel t cs = some x) : cs = x.1.flat.map Lit.toCell :=
  cells_of_lits m' t ht m cs _ (keyLits_of_trod m t hk fuel cs x h).1
theorem plain_of_head {P : Program} {W : World} {name : String} {D : DataW Unit} {rest : List (String × DataW Unit)} {g : Nat} {t : TypeId} (m m' : Nat)
    (hg : P.globalNamed name = some g) (hty : (P.globals[g]?).map (·.type) = some t) (hk : P.keyTypeAt m t = true) (ht : P.tiled m' t = true)
    (h : laidMet P ((name, D) :: rest) W) : W.var? P name = some (D.flat.map Lit.toCell).toArray := by
  obtain ⟨ps, ⟨g', t', cs, fuel, p, q, hg', ht', hvar, hd, _, _⟩, _⟩ := h
  obtain rfl := Option.some.inj (hg.symm.trans hg')
  obtain rfl := Option.some.inj (hty.symm.trans ht')
  have := plain_cells m m' hk ht hd
  rw [hvar, ← this]

/-! The operators, plain. -/
def opNames : List (List UInt8) := [[110, 111, 116], [110, 101, 103], [97, 100, 100], [115, 117, 98], [109, 117, 108], [100, 105, 118], [114, 101, 109], [97, 110, 100], [111, 114], [120, 111, 114], [115, 104, 108], [115, 104, 114], [115, 97, 114], [101, 113], [110, 101], [108, 116], [108, 101], [115, 108, 116], [115, 108, 101], [105, 116, 101]]
/-- The name of the operator o; none: it has none. -/
def nameL (o : Nat) : List UInt8 := if o < 2 then [] else opNames.getD (o - 2) []
def nameB (o : Nat) : ByteArray := ⟨(nameL o).toArray⟩
def arityN (o : Nat) : Nat := if o < 2 then 0 else if o < 4 then 1 else if o < 21 then 2 else 3
def commN (o : Nat) : Bool := o == 4 || o == 6 || o == 9 || o == 10 || o == 11 || o == 15 || o == 16
def opCells : List Value := (List.range 22).flatMap fun o => [.int .i64 (arityN o), .string (nameB o)]
theorem op_data : ((Rows.laid_weephole_op_operators : DataW Unit).flat.map Lit.toCell) = opCells := by kernel_rfl

/-- What the package's variable holds. -/
structure OpEnv (w : World) : Prop where
  ar : ∀ o, o < 22 → w.cell? ⟨0, o * 2, none⟩ = some (.int .i64 (arityN o))
  nm : ∀ o, o < 22 → w.cell? ⟨0, o * 2 + 1, none⟩ = some (.string (nameB o))
theorem opCells_at : ∀ o, o < 22 → opCells[o * 2]? = some (.int .i64 (arityN o)) ∧ opCells[o * 2 + 1]? = some (.string (nameB o)) := by
  intro o ho
  unfold opCells
  have : o ∈ List.range 22 := List.mem_range.2 ho
  revert this
  revert o
  intro o ho _
  rcases o with _ | _ | _ | _ | _ | _ | _ | _ | _ | _ | _ | _ | _ | _ | _ | _ | _ | _ | _ | _ | _ | _ | o
  all_goals first | exact ⟨rfl, rfl⟩ | omega
theorem OpEnv.lt {w : World} (h : OpEnv w) : 0 < w.heap.size := by
  have hm := h.ar 0 (by omega)
  by_cases h0 : 0 < w.heap.size
  · exact h0
  · have : w.heap[0]? = none := by rw [Array.getElem?_eq_none_iff]; omega
    simp [World.cell?, this] at hm
theorem OpEnv.below {w w' : World} (h : OpEnv w) (hb : Below w.heap.size w w') : OpEnv w' :=
  ⟨fun o ho => (hb.cell (p := ⟨0, o * 2, none⟩) h.lt).trans (h.ar o ho), fun o ho => (hb.cell (p := ⟨0, o * 2 + 1, none⟩) h.lt).trans (h.nm o ho)⟩
def opLaid : List (String × DataW Unit) := [("weephole/op.operators", Rows.laid_weephole_op_operators)]
theorem opEnv_of_laid {W : World} (h : laidMet Tryd.prog opLaid W) : OpEnv W := by
  have hg : Tryd.prog.globalNamed "weephole/op.operators" = some 0 := by kernel_rfl
  have hv : W.var? Tryd.prog "weephole/op.operators" = some opCells.toArray := by
    rw [← op_data]
    exact plain_of_head (t := 63) 5 5 hg (by kernel_rfl) (by kernel_rfl) (by kernel_rfl) h
  exact ⟨fun o ho => by have := World.var?_cell hg hv (o * 2); rw [this]; simpa using (opCells_at o ho).1, fun o ho => by have := World.var?_cell hg hv (o * 2 + 1); rw [this]; simpa using (opCells_at o ho).2⟩
theorem u8_range {n : Int} (h : (Lit.int .u8 n).wf = true) : 0 ≤ n ∧ n ≤ 255 := by
  unfold Lit.wf at h
  rw [Bool.and_eq_true, decide_eq_true_eq, decide_eq_true_eq] at h
  exact h
theorem i64_small (o : Int) (h0 : 0 ≤ o) (h1 : o ≤ 1000000) : IntKind.i64.wrap o = o := by simp [IntKind.wrap, IntKind.bits, IntKind.signed]; omega

/-! Contracts. -/
theorem known_is (o : Int) (h0 : 0 ≤ o) (h1 : o ≤ 255) (w : World) : Calls Tryd.prog 36 #[.int .u8 o] w fun e w' => e = .returned (.bool (decide (o < 22))) ∧ w = w' := by
  go_enter Tryd.func36, Tryd.ntmps36
  have hw := i64_small o h0 (by omega)
  go_wp2
  go_ret
  exact ⟨rfl, rfl⟩
theorem arity_is (o : Nat) (h1 : o ≤ 255) (w : World) (he : OpEnv w) : Calls Tryd.prog 27 #[.int .u8 o] w fun e w' => e = .returned (.tuple (if o < 22 then #[.int .i64 (arityN o), .int .i64 0] else #[.int .i64 0, .int .i64 3])) ∧ w = w' := by
  by_cases ho : o < 22
  · have hc := he.ar o ho
    have hd : decide ((o : Int) < 22) = true := by simp; omega
    clear he
    go_enter Tryd.func27, Tryd.ntmps27
    go_wp2_with (go_at_call 36; refine (known_is _ (by omega) (by omega) _).mono ?_; rintro e w' ⟨rfl, rfl⟩)
    go_ret2
    exact ⟨rfl, rfl⟩
  · have hd : decide ((o : Int) < 22) = false := by simp; omega
    clear he
    go_enter Tryd.func27, Tryd.ntmps27
    go_wp2_with (go_at_call 36; refine (known_is _ (by omega) (by omega) _).mono ?_; rintro e w' ⟨rfl, rfl⟩)
    go_ret2
    exact ⟨rfl, rfl⟩
theorem nameB_nil : ∀ o, o < 22 → ((nameB o).toList == []) = decide (o < 2) := by
  intro o ho
  rw [Lib.toList_data]
  rcases o with _ | _ | _ | _ | _ | _ | _ | _ | _ | _ | _ | _ | _ | _ | _ | _ | _ | _ | _ | _ | _ | _ | o
  all_goals first | rfl | omega
theorem commutes_is (o : Nat) (h1 : o ≤ 255) (w : World) : Calls Tryd.prog 24 #[.int .u8 o] w fun e w' => e = .returned (.bool (commN o)) ∧ w = w' := by
  obtain ⟨b, hb⟩ : ∃ b, commN o = b := ⟨_, rfl⟩
  rw [hb]
  cases b
  all_goals
    simp [commN] at hb
    go_enter Tryd.func24, Tryd.ntmps24
    go_wp2
    all_goals
      go_ret
      exact ⟨by first | rfl | (simp; omega), rfl⟩
theorem arityN_cases (o : Nat) : (o < 2 ∧ arityN o = 0) ∨ (2 ≤ o ∧ o < 4 ∧ arityN o = 1) ∨ (4 ≤ o ∧ o < 21 ∧ arityN o = 2) ∨ (21 ≤ o ∧ arityN o = 3) := by
  unfold arityN; split
  · exact .inl ⟨by omega, rfl⟩
  split
  · exact .inr (.inl ⟨by omega, by omega, rfl⟩)
  split
  · exact .inr (.inr (.inl ⟨by omega, by omega, rfl⟩))
  · exact .inr (.inr (.inr ⟨by omega, rfl⟩))
theorem rarity_is (o : Nat) (h1 : o ≤ 255) (w : World) : Calls Tryd.prog 31 #[.int .u8 o] w fun e w' => e = .returned (.tuple (if o < 22 then #[.int .i64 (arityN o), .int .i64 0] else #[.int .i64 0, .int .i64 3])) ∧ w = w' := by
  have ha := arityN_cases o
  obtain ⟨r, hr⟩ : ∃ r, arityN o = r := ⟨_, rfl⟩
  rw [hr] at ha ⊢
  clear hr
  go_enter Tryd.func31, Tryd.ntmps31
  go_wp2
  all_goals
    go_ret2
    refine ⟨?_, rfl⟩
    try simp only [beq_iff_eq, beq_eq_false_iff_ne, ne_eq] at *
    first | rfl | (obtain rfl : r = 0 := (by omega); rfl) | (obtain rfl : r = 1 := (by omega); rfl) | (obtain rfl : r = 2 := (by omega); rfl) | (obtain rfl : r = 3 := (by omega); rfl)
end Go.Proofs.YtldcekejbnhloaaDoor.Ops
