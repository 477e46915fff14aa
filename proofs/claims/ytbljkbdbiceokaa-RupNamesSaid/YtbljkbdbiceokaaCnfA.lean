/-
  Slices of slices of integers; a scope that is left by a goto forwards; Small and Check of a formula (program and reference).
-/
import Derived.Test.YtbljkbdbiceokaaLitJ
import Derived.WalkMore
import Derived.ScopeJumps
import Derived.BigQuiet
namespace Go.Proofs.Ytbljkbdbiceokaa
open Go.RowKit Go.Lib
open Go.RowKit (Below)

/-- A slice of integers of the kind k whose elements are zs. -/
def KI (k : IntKind) (w : World) (a : Option Addr) (zs : List Int) : Prop :=
  zs.length = 0 ∨ ∃ b off, a = some ⟨b, off, none⟩ ∧ b < w.heap.size ∧ ∀ j, j < zs.length → w.cell? ⟨b, off + j, none⟩ = some (.int k (zs.getD j 0))
theorem KI.below {k : IntKind} {w w' : World} {a : Option Addr} {zs : List Int} (h : KI k w a zs) (hb : Below w.heap.size w w') : KI k w' a zs := by
  rcases h with h | ⟨b, off, ha, hs, hc⟩
  · exact .inl h
  · exact .inr ⟨b, off, ha, Nat.lt_of_lt_of_le hs hb.size, fun j hj => by rw [hb.cell (p := ⟨b, off + j, none⟩) hs]; exact hc j hj⟩
theorem KI.at {k : IntKind} {w : World} {a : Option Addr} {zs : List Int} (h : KI k w a zs) {j : Nat} (hj : j < zs.length) :
    ∃ b off x, a = some ⟨b, off, none⟩ ∧ Hid (zs[j]? = some x) ∧ w.cell? ⟨b, off + j, none⟩ = some (.int k x) := by
  rcases h with h | ⟨b, off, ha, _, hc⟩
  · omega
  · exact ⟨b, off, _, ha, getD_some zs 0 j hj, hc j hj⟩
theorem KI.ints {w : World} {a : Option Addr} {zs : List Int} (h : KI .i64 w a zs) : IntsR w a zs := h
theorem KI.of {w : World} {a : Option Addr} {zs : List Int} (h : IntsR w a zs) : KI .i64 w a zs := h

/-- A slice of slices of integers whose elements are zss. -/
def RowsR (k : IntKind) (w : World) (a : Option Addr) (zss : List (List Int)) : Prop :=
  zss.length = 0 ∨ ∃ b off, a = some ⟨b, off, none⟩ ∧ b < w.heap.size ∧ ∀ j, j < zss.length → ∃ aj cj, w.cell? ⟨b, off + j, none⟩ = some (.slice aj (zss.getD j []).length cj) ∧ KI k w aj (zss.getD j []) ∧ (zss.getD j []).length ≤ cj ∧ cj ≤ maxLen
theorem RowsR.at {k : IntKind} {w : World} {a : Option Addr} {zss : List (List Int)} (h : RowsR k w a zss) {j : Nat} (hj : j < zss.length) :
    ∃ b off aj cj zs, a = some ⟨b, off, none⟩ ∧ b < w.heap.size ∧ Hid (zss[j]? = some zs) ∧ w.cell? ⟨b, off + j, none⟩ = some (.slice aj zs.length cj) ∧ Hid (KI k w aj zs) := by
  rcases h with h | ⟨b, off, ha, hs, hc⟩
  · omega
  · obtain ⟨aj, cj, h1, h2, _⟩ := hc j hj
    exact ⟨b, off, aj, cj, _, ha, hs, getD_some zss [] j hj, h1, h2⟩
/-- .. and how much room each row has. -/
theorem RowsR.atC {k : IntKind} {w : World} {a : Option Addr} {zss : List (List Int)} (h : RowsR k w a zss) {j : Nat} (hj : j < zss.length) :
    ∃ b off aj cj zs, a = some ⟨b, off, none⟩ ∧ b < w.heap.size ∧ Hid (zss[j]? = some zs) ∧ w.cell? ⟨b, off + j, none⟩ = some (.slice aj zs.length cj) ∧ Hid (KI k w aj zs) ∧ zs.length ≤ cj ∧ cj ≤ maxLen := by
  rcases h with h | ⟨b, off, ha, hs, hc⟩
  · omega
  · obtain ⟨aj, cj, h1, h2, h3⟩ := hc j hj
    exact ⟨b, off, aj, cj, _, ha, hs, getD_some zss [] j hj, h1, h2, h3⟩
theorem RowsR.below {k : IntKind} {w w' : World} {a : Option Addr} {zss : List (List Int)} (h : RowsR k w a zss) (hb : Below w.heap.size w w') : RowsR k w' a zss := by
  rcases h with h | ⟨b, off, ha, hs, hc⟩
  · exact .inl h
  · refine .inr ⟨b, off, ha, Nat.lt_of_lt_of_le hs hb.size, fun j hj => ?_⟩
    obtain ⟨aj, cj, h1, h2⟩ := hc j hj
    exact ⟨aj, cj, by rw [hb.cell (p := ⟨b, off + j, none⟩) hs]; exact h1, h2.1.below hb, h2.2⟩
theorem RowsR.alloc {k : IntKind} {w : World} {a : Option Addr} {zss : List (List Int)} (h : RowsR k w a zss) (o : Obj) : RowsR k (w.alloc o) a zss := h.below ((Below.refl _ _).alloc (Nat.le_refl _) _)
theorem KI.alloc {k : IntKind} {w : World} {a : Option Addr} {zs : List Int} (h : KI k w a zs) (o : Obj) : KI k (w.alloc o) a zs := h.below ((Below.refl _ _).alloc (Nat.le_refl _) _)
theorem boxed (w : World) (o : Obj) : Below w.heap.size w (w.alloc o) := (Below.refl _ _).alloc (Nat.le_refl _) _
theorem RowsR.quiet {k : IntKind} {w w' : World} {a : Option Addr} {zss : List (List Int)} (h : RowsR k w a zss) (hq : QuietTo w w') : RowsR k w' a zss := by
  obtain ⟨q, rfl⟩ := hq; exact h.below ⟨rfl, rfl, rfl, Nat.le_refl _, fun _ _ => rfl⟩
theorem quietBelow {w w' : World} (h : QuietTo w w') (B : Nat) : Below B w w' := by
  obtain ⟨q, rfl⟩ := h; exact ⟨rfl, rfl, rfl, Nat.le_refl _, fun _ _ => rfl⟩

/-- A scope that is left by a goto forwards: whoever jumps owes the walk of what stands behind the label. -/
theorem wp_scope_on {P : Program} {a : Act} {w : World} {Q : Exit → Act → World → Prop} {c rest : Code} (l : Nat) (hf : findLabel c l = some rest)
    (first : ∀ J : Act → World → Prop, Hid (∀ a' w', rest.wp P (Exit.noGoto Q) a' w' → J a' w') → c.wp P (Exit.jump l J Q) a w) : (Code.scope c).wp P Q a w := by
  refine wp_scope_jumps l (fun a' w' => rest.wp P (Exit.noGoto Q) a' w') (fun _ _ => 0) hf (first _ (fun _ _ h => h)) fun a' w' h => ?_
  refine Code.wp_mono (fun e b v hq => ?_) h
  cases e with
  | goto l' => exact False.elim hq
  | _ => exact hq

/-! Plain words. -/
def smallB (zss : List (List Int)) : Bool := (zss.take 60).all (fun z => decide (z.length ≤ 40)) && decide (zss.length ≤ 60)
theorem smallB_long {zss : List (List Int)} {j : Nat} {z : List Int} (hj : j < 60) (hz : zss[j]? = some z) (hl : 40 < z.length) : smallB zss = false := by
  unfold smallB
  rw [Bool.and_eq_false_iff]; left
  rw [List.all_eq_false]
  refine ⟨z, List.mem_of_getElem? (i := j) (by rw [List.getElem?_take, if_pos hj]; exact hz), by simp; omega⟩
def ShortTo (zss : List (List Int)) (k : Nat) : Prop := ∀ j z, j < k → zss[j]? = some z → z.length ≤ 40
theorem ShortTo.succ {zss : List (List Int)} {k : Nat} (h : ShortTo zss k) {z : List Int} (hz : zss[k]? = some z) (hl : z.length ≤ 40) : ShortTo zss (k + 1) := fun j y hj hy => by
  by_cases e : j = k
  · subst e; rw [hz] at hy; cases hy; exact hl
  · exact h j y (by omega) hy
theorem smallB_many {zss : List (List Int)} (h : 60 < zss.length) : smallB zss = false := by
  unfold smallB; rw [decide_eq_false (show ¬ zss.length ≤ 60 by omega), Bool.and_false]
theorem smallB_yes {zss : List (List Int)} (h : zss.length ≤ 60) (hs : ShortTo zss zss.length) : smallB zss = true := by
  unfold smallB
  rw [Bool.and_eq_true, List.all_eq_true]
  refine ⟨fun z hz => ?_, decide_eq_true h⟩
  obtain ⟨j, hj⟩ := List.mem_iff_getElem?.1 (List.mem_of_mem_take hz)
  exact decide_eq_true (hs j z (List.getElem?_eq_some_iff.1 hj).1 hj)
theorem smallB_parts {zss : List (List Int)} (h : smallB zss = true) : zss.length ≤ 60 ∧ ∀ z ∈ zss, z.length ≤ 40 := by
  unfold smallB at h
  rw [Bool.and_eq_true, List.all_eq_true] at h
  have h1 := of_decide_eq_true h.2
  refine ⟨h1, fun z hz => of_decide_eq_true (h.1 z ?_)⟩
  rwa [List.take_of_length_le h1]

/-- What Check answers for a formula of n variables with the clauses zss. -/
def errs (n : Int) (zss : List (List Int)) : Int := match zss.find? (fun z => checkI n z != 0) with | none => 0 | some z => checkI n z
def checkF (n : Int) (zss : List (List Int)) : Int := if n < 0 ∨ 1048576 < n then 3 else if 1048576 < zss.length then 5 else errs n zss
theorem checkF_out {n : Int} {zss : List (List Int)} (h : n < 0 ∨ 1048576 < n) : checkF n zss = 3 := by unfold checkF; rw [if_pos h]
theorem checkF_long {n : Int} {zss : List (List Int)} (h : ¬ (n < 0 ∨ 1048576 < n)) (hl : 1048576 < zss.length) : checkF n zss = 5 := by unfold checkF; rw [if_neg h, if_pos hl]
theorem checkF_in {n : Int} {zss : List (List Int)} (h : ¬ (n < 0 ∨ 1048576 < n)) (hl : ¬ 1048576 < zss.length) : checkF n zss = errs n zss := by unfold checkF; rw [if_neg h, if_neg hl]
def FineTo (n : Int) (zss : List (List Int)) (k : Nat) : Prop := ∀ j z, j < k → zss[j]? = some z → checkI n z = 0
theorem FineTo.succ {n : Int} {zss : List (List Int)} {k : Nat} (h : FineTo n zss k) {z : List Int} (hz : zss[k]? = some z) (hl : checkI n z = 0) : FineTo n zss (k + 1) := fun j y hj hy => by
  by_cases e : j = k
  · subst e; rw [hz] at hy; cases hy; exact hl
  · exact h j y (by omega) hy
theorem errs_at {n : Int} {zss : List (List Int)} {k : Nat} (h : FineTo n zss k) {z : List Int} (hz : zss[k]? = some z) (hl : checkI n z ≠ 0) : errs n zss = checkI n z := by
  unfold errs
  have : zss.find? (fun z => checkI n z != 0) = some z := by
    obtain ⟨hk, rfl⟩ := List.getElem?_eq_some_iff.1 hz
    rw [List.find?_eq_some_iff_getElem]
    refine ⟨by simpa using hl, k, hk, rfl, fun j hj => ?_⟩
    simpa using h j _ hj (List.getElem?_eq_getElem (by omega))
  rw [this]
theorem errs_none {n : Int} {zss : List (List Int)} (h : FineTo n zss zss.length) : errs n zss = 0 := by
  unfold errs
  have : zss.find? (fun z => checkI n z != 0) = none := by
    rw [List.find?_eq_none]
    intro z hz
    obtain ⟨j, hj⟩ := List.mem_iff_getElem?.1 hz
    simpa using h j z (List.getElem?_eq_some_iff.1 hj).1 hj
  rw [this]
def AllLen (zss : List (List Int)) : Prop := ∀ z ∈ zss, z.length ≤ maxLen
theorem AllLen.at {zss : List (List Int)} (h : AllLen zss) {j : Nat} {z : List Int} (hz : zss[j]? = some z) : z.length ≤ maxLen := h z (List.mem_of_getElem? hz)
end Go.Proofs.Ytbljkbdbiceokaa
