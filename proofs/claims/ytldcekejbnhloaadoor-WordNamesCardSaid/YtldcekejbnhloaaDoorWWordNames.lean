/-
  WordNames' walk.
-/
import Derived.Test.YtldcekejbnhloaaDoorWWordAll
import Derived.Deep.RegionHeld3
set_option linter.unusedVariables false
namespace Go.Proofs.YtldcekejbnhloaaDoor
open Go.RowKit Go.Lib Ops Words
open Go.RowKit (Below)

def nmOps : List Nat := [2, 3, 5, 6, 7, 7, 8, 8, 12, 12, 13, 14, 14, 17, 19, 18, 20, 21, 21, 21]
def nmArgs : List (List Nat) := [[2], [3], [2, 5], [3, 5], [7, 2], [7, 0], [7, 2], [5, 0], [3, 1], [3, 3], [6, 1], [6, 5], [3, 7], [3, 4], [3, 4], [4, 4], [4, 3], [4, 1, 2], [0, 1, 2], [8, 1, 2]]
def nmWant : List Nat := [5, 5, 5, 7, 3, 7, 1, 5, 6, 0, 3, 7, 0, 1, 0, 1, 1, 1, 2, 2]
theorem nm_all : ∀ i, i < 20 → apV (nmOps.getD i 0) 3 (nmArgs.getD i []) = nmWant.getD i 0 ∧ apE (nmOps.getD i 0) 3 (nmArgs.getD i []).length = 0 ∧ nmOps.getD i 0 ≤ 255 ∧ (nmArgs.getD i []).length ≤ 3 ∧ (nmArgs.getD i []).all (· < 100) = true := by
  have : ((List.range 20).all fun i => decide (apV (nmOps.getD i 0) 3 (nmArgs.getD i []) = nmWant.getD i 0 ∧ apE (nmOps.getD i 0) 3 (nmArgs.getD i []).length = 0 ∧ nmOps.getD i 0 ≤ 255 ∧ (nmArgs.getD i []).length ≤ 3 ∧ (nmArgs.getD i []).all (· < 100) = true)) = true := by decide +kernel
  intro i hi
  exact of_decide_eq_true (List.all_eq_true.1 this i (List.mem_range.2 hi))
/-- Blocks made one after another. -/
def Words.allocs (w : World) (l : List Obj) : World := l.foldl World.alloc w
theorem Words.allocs_below (w : World) : ∀ (l : List Obj) (v : World), Below w.heap.size w v → Below w.heap.size w (allocs v l)
  | [], _, h => h
  | o :: l, v, h => allocs_below w l (v.alloc o) (h.alloc h.size o)
theorem Words.allocs_heap : ∀ (l : List Obj) (v : World), (allocs v l).heap.toList = v.heap.toList ++ l
  | [], v => by simp [allocs]
  | o :: l, v => by
    show (allocs (v.alloc o) l).heap.toList = _
    rw [allocs_heap l (v.alloc o)]
    show (v.heap.push o).toList ++ l = _
    simp
theorem Words.allocs_at (w : World) (l : List Obj) (j : Nat) (hj : j < l.length) : (allocs w l).heap[w.heap.size + j]? = l[j]? := by
  rw [← Array.getElem?_toList, allocs_heap, List.getElem?_append_right (by simp)]
  congr 1
  simp
def nmObjs (p : Nat) : List Obj := .cells ((nmOps.map fun o => Value.int .u8 ((o : Nat) : Int)).toArray) 5 :: (nmArgs.map fun r => Obj.cells ((r.map fun n => Value.int .u64 ((n : Nat) : Int)).toArray) 24) ++
  [.cells (((List.range 20).map fun i => Value.slice (some ⟨p + 1 + i, 0, none⟩) (nmArgs.getD i []).length (nmArgs.getD i []).length).toArray) 22, .cells ((nmWant.map fun n => Value.int .u64 ((n : Nat) : Int)).toArray) 24]
theorem nm_chain (w : World) : (((((((((((((((((((((((w.alloc (.cells #[.int .u8 2, .int .u8 3, .int .u8 5, .int .u8 6, .int .u8 7, .int .u8 7, .int .u8 8, .int .u8 8, .int .u8 12, .int .u8 12, .int .u8 13, .int .u8 14, .int .u8 14, .int .u8 17, .int .u8 19, .int .u8 18, .int .u8 20, .int .u8 21, .int .u8 21, .int .u8 21] 5)).alloc (.cells #[.int .u64 2] 24)).alloc (.cells #[.int .u64 3] 24)).alloc (.cells #[.int .u64 2, .int .u64 5] 24)).alloc (.cells #[.int .u64 3, .int .u64 5] 24)).alloc (.cells #[.int .u64 7, .int .u64 2] 24)).alloc (.cells #[.int .u64 7, .int .u64 0] 24)).alloc (.cells #[.int .u64 7, .int .u64 2] 24)).alloc (.cells #[.int .u64 5, .int .u64 0] 24)).alloc (.cells #[.int .u64 3, .int .u64 1] 24)).alloc (.cells #[.int .u64 3, .int .u64 3] 24)).alloc (.cells #[.int .u64 6, .int .u64 1] 24)).alloc (.cells #[.int .u64 6, .int .u64 5] 24)).alloc (.cells #[.int .u64 3, .int .u64 7] 24)).alloc (.cells #[.int .u64 3, .int .u64 4] 24)).alloc (.cells #[.int .u64 3, .int .u64 4] 24)).alloc (.cells #[.int .u64 4, .int .u64 4] 24)).alloc (.cells #[.int .u64 4, .int .u64 3] 24)).alloc (.cells #[.int .u64 4, .int .u64 1, .int .u64 2] 24)).alloc (.cells #[.int .u64 0, .int .u64 1, .int .u64 2] 24)).alloc (.cells #[.int .u64 8, .int .u64 1, .int .u64 2] 24)).alloc (.cells #[.slice (some ⟨w.heap.size + 1, 0, none⟩) 1 1, .slice (some ⟨w.heap.size + 1 + 1, 0, none⟩) 1 1, .slice (some ⟨w.heap.size + 1 + 1 + 1, 0, none⟩) 2 2, .slice (some ⟨w.heap.size + 1 + 1 + 1 + 1, 0, none⟩) 2 2, .slice (some ⟨w.heap.size + 1 + 1 + 1 + 1 + 1, 0, none⟩) 2 2, .slice (some ⟨w.heap.size + 1 + 1 + 1 + 1 + 1 + 1, 0, none⟩) 2 2, .slice (some ⟨w.heap.size + 1 + 1 + 1 + 1 + 1 + 1 + 1, 0, none⟩) 2 2, .slice (some ⟨w.heap.size + 1 + 1 + 1 + 1 + 1 + 1 + 1 + 1, 0, none⟩) 2 2, .slice (some ⟨w.heap.size + 1 + 1 + 1 + 1 + 1 + 1 + 1 + 1 + 1, 0, none⟩) 2 2, .slice (some ⟨w.heap.size + 1 + 1 + 1 + 1 + 1 + 1 + 1 + 1 + 1 + 1, 0, none⟩) 2 2, .slice (some ⟨w.heap.size + 1 + 1 + 1 + 1 + 1 + 1 + 1 + 1 + 1 + 1 + 1, 0, none⟩) 2 2, .slice (some ⟨w.heap.size + 1 + 1 + 1 + 1 + 1 + 1 + 1 + 1 + 1 + 1 + 1 + 1, 0, none⟩) 2 2, .slice (some ⟨w.heap.size + 1 + 1 + 1 + 1 + 1 + 1 + 1 + 1 + 1 + 1 + 1 + 1 + 1, 0, none⟩) 2 2, .slice (some ⟨w.heap.size + 1 + 1 + 1 + 1 + 1 + 1 + 1 + 1 + 1 + 1 + 1 + 1 + 1 + 1, 0, none⟩) 2 2, .slice (some ⟨w.heap.size + 1 + 1 + 1 + 1 + 1 + 1 + 1 + 1 + 1 + 1 + 1 + 1 + 1 + 1 + 1, 0, none⟩) 2 2, .slice (some ⟨w.heap.size + 1 + 1 + 1 + 1 + 1 + 1 + 1 + 1 + 1 + 1 + 1 + 1 + 1 + 1 + 1 + 1, 0, none⟩) 2 2, .slice (some ⟨w.heap.size + 1 + 1 + 1 + 1 + 1 + 1 + 1 + 1 + 1 + 1 + 1 + 1 + 1 + 1 + 1 + 1 + 1, 0, none⟩) 2 2, .slice (some ⟨w.heap.size + 1 + 1 + 1 + 1 + 1 + 1 + 1 + 1 + 1 + 1 + 1 + 1 + 1 + 1 + 1 + 1 + 1 + 1, 0, none⟩) 3 3, .slice (some ⟨w.heap.size + 1 + 1 + 1 + 1 + 1 + 1 + 1 + 1 + 1 + 1 + 1 + 1 + 1 + 1 + 1 + 1 + 1 + 1 + 1, 0, none⟩) 3 3, .slice (some ⟨w.heap.size + 1 + 1 + 1 + 1 + 1 + 1 + 1 + 1 + 1 + 1 + 1 + 1 + 1 + 1 + 1 + 1 + 1 + 1 + 1 + 1, 0, none⟩) 3 3] 22)).alloc (.cells #[.int .u64 5, .int .u64 5, .int .u64 5, .int .u64 7, .int .u64 3, .int .u64 7, .int .u64 1, .int .u64 5, .int .u64 6, .int .u64 0, .int .u64 3, .int .u64 7, .int .u64 0, .int .u64 1, .int .u64 0, .int .u64 1, .int .u64 1, .int .u64 1, .int .u64 2, .int .u64 2] 24)) = allocs w (nmObjs w.heap.size) := rfl

theorem len3 {l : Nat} (h : l ≤ 3) : l ≤ maxLen := by unfold maxLen; omega
set_option maxRecDepth 200000 in
set_option maxHeartbeats 32000000 in
theorem wordNames_walk (w : World) (he : Env w) : Calls Tryd.prog 6 #[] w fun e w' => e = .returned (.bool true) ∧ Below w.heap.size w w' := by
  have HE := Lib.hid he
  clear he
  go_enter Tryd.func6, Tryd.ntmps6
  go_wp2
  obtain ⟨w1, hw1⟩ : ∃ w1, (((((((((((((((((((((((w.alloc (.cells #[.int .u8 2, .int .u8 3, .int .u8 5, .int .u8 6, .int .u8 7, .int .u8 7, .int .u8 8, .int .u8 8, .int .u8 12, .int .u8 12, .int .u8 13, .int .u8 14, .int .u8 14, .int .u8 17, .int .u8 19, .int .u8 18, .int .u8 20, .int .u8 21, .int .u8 21, .int .u8 21] 5)).alloc (.cells #[.int .u64 2] 24)).alloc (.cells #[.int .u64 3] 24)).alloc (.cells #[.int .u64 2, .int .u64 5] 24)).alloc (.cells #[.int .u64 3, .int .u64 5] 24)).alloc (.cells #[.int .u64 7, .int .u64 2] 24)).alloc (.cells #[.int .u64 7, .int .u64 0] 24)).alloc (.cells #[.int .u64 7, .int .u64 2] 24)).alloc (.cells #[.int .u64 5, .int .u64 0] 24)).alloc (.cells #[.int .u64 3, .int .u64 1] 24)).alloc (.cells #[.int .u64 3, .int .u64 3] 24)).alloc (.cells #[.int .u64 6, .int .u64 1] 24)).alloc (.cells #[.int .u64 6, .int .u64 5] 24)).alloc (.cells #[.int .u64 3, .int .u64 7] 24)).alloc (.cells #[.int .u64 3, .int .u64 4] 24)).alloc (.cells #[.int .u64 3, .int .u64 4] 24)).alloc (.cells #[.int .u64 4, .int .u64 4] 24)).alloc (.cells #[.int .u64 4, .int .u64 3] 24)).alloc (.cells #[.int .u64 4, .int .u64 1, .int .u64 2] 24)).alloc (.cells #[.int .u64 0, .int .u64 1, .int .u64 2] 24)).alloc (.cells #[.int .u64 8, .int .u64 1, .int .u64 2] 24)).alloc (.cells #[.slice (some ⟨w.heap.size + 1, 0, none⟩) 1 1, .slice (some ⟨w.heap.size + 1 + 1, 0, none⟩) 1 1, .slice (some ⟨w.heap.size + 1 + 1 + 1, 0, none⟩) 2 2, .slice (some ⟨w.heap.size + 1 + 1 + 1 + 1, 0, none⟩) 2 2, .slice (some ⟨w.heap.size + 1 + 1 + 1 + 1 + 1, 0, none⟩) 2 2, .slice (some ⟨w.heap.size + 1 + 1 + 1 + 1 + 1 + 1, 0, none⟩) 2 2, .slice (some ⟨w.heap.size + 1 + 1 + 1 + 1 + 1 + 1 + 1, 0, none⟩) 2 2, .slice (some ⟨w.heap.size + 1 + 1 + 1 + 1 + 1 + 1 + 1 + 1, 0, none⟩) 2 2, .slice (some ⟨w.heap.size + 1 + 1 + 1 + 1 + 1 + 1 + 1 + 1 + 1, 0, none⟩) 2 2, .slice (some ⟨w.heap.size + 1 + 1 + 1 + 1 + 1 + 1 + 1 + 1 + 1 + 1, 0, none⟩) 2 2, .slice (some ⟨w.heap.size + 1 + 1 + 1 + 1 + 1 + 1 + 1 + 1 + 1 + 1 + 1, 0, none⟩) 2 2, .slice (some ⟨w.heap.size + 1 + 1 + 1 + 1 + 1 + 1 + 1 + 1 + 1 + 1 + 1 + 1, 0, none⟩) 2 2, .slice (some ⟨w.heap.size + 1 + 1 + 1 + 1 + 1 + 1 + 1 + 1 + 1 + 1 + 1 + 1 + 1, 0, none⟩) 2 2, .slice (some ⟨w.heap.size + 1 + 1 + 1 + 1 + 1 + 1 + 1 + 1 + 1 + 1 + 1 + 1 + 1 + 1, 0, none⟩) 2 2, .slice (some ⟨w.heap.size + 1 + 1 + 1 + 1 + 1 + 1 + 1 + 1 + 1 + 1 + 1 + 1 + 1 + 1 + 1, 0, none⟩) 2 2, .slice (some ⟨w.heap.size + 1 + 1 + 1 + 1 + 1 + 1 + 1 + 1 + 1 + 1 + 1 + 1 + 1 + 1 + 1 + 1, 0, none⟩) 2 2, .slice (some ⟨w.heap.size + 1 + 1 + 1 + 1 + 1 + 1 + 1 + 1 + 1 + 1 + 1 + 1 + 1 + 1 + 1 + 1 + 1, 0, none⟩) 2 2, .slice (some ⟨w.heap.size + 1 + 1 + 1 + 1 + 1 + 1 + 1 + 1 + 1 + 1 + 1 + 1 + 1 + 1 + 1 + 1 + 1 + 1, 0, none⟩) 3 3, .slice (some ⟨w.heap.size + 1 + 1 + 1 + 1 + 1 + 1 + 1 + 1 + 1 + 1 + 1 + 1 + 1 + 1 + 1 + 1 + 1 + 1 + 1, 0, none⟩) 3 3, .slice (some ⟨w.heap.size + 1 + 1 + 1 + 1 + 1 + 1 + 1 + 1 + 1 + 1 + 1 + 1 + 1 + 1 + 1 + 1 + 1 + 1 + 1 + 1, 0, none⟩) 3 3] 22)).alloc (.cells #[.int .u64 5, .int .u64 5, .int .u64 5, .int .u64 7, .int .u64 3, .int .u64 7, .int .u64 1, .int .u64 5, .int .u64 6, .int .u64 0, .int .u64 3, .int .u64 7, .int .u64 0, .int .u64 1, .int .u64 0, .int .u64 1, .int .u64 1, .int .u64 1, .int .u64 2, .int .u64 2] 24)) = w1 := ⟨_, rfl⟩
  have HB1 : Hid (Below w.heap.size w w1) := by unfold Hid; rw [← hw1, nm_chain]; exact allocs_below w _ w (Below.refl _ _)
  have HT : Hid (∀ j, j < 23 → w1.heap[w.heap.size + j]? = (nmObjs w.heap.size)[j]?) := fun j hj => by rw [← hw1, nm_chain]; exact allocs_at w _ j hj
  have hlt1 : ∀ j, j < 23 → w.heap.size + j < w1.heap.size := fun j hj => by
    have := HT.out j hj
    have hl : (nmObjs w.heap.size).length = 23 := rfl
    rw [List.getElem?_eq_getElem (by omega)] at this
    exact (Array.getElem?_eq_some_iff.1 this).1
  have HC : Hid (∀ W', Hid (Below w1.heap.size w1 W') → ∀ i, i < 20 → W'.cell? ⟨w.heap.size, i, none⟩ = some (.int .u8 ((nmOps.getD i 0 : Nat) : Int)) ∧ W'.cell? ⟨w.heap.size + 1 + 1 + 1 + 1 + 1 + 1 + 1 + 1 + 1 + 1 + 1 + 1 + 1 + 1 + 1 + 1 + 1 + 1 + 1 + 1 + 1, i, none⟩ = some (.slice (some ⟨w.heap.size + 1 + i, 0, none⟩) (nmArgs.getD i []).length (nmArgs.getD i []).length) ∧ W'.cell? ⟨w.heap.size + 1 + 1 + 1 + 1 + 1 + 1 + 1 + 1 + 1 + 1 + 1 + 1 + 1 + 1 + 1 + 1 + 1 + 1 + 1 + 1 + 1 + 1, i, none⟩ = some (.int .u64 ((nmWant.getD i 0 : Nat) : Int)) ∧ NumsR W' (some ⟨w.heap.size + 1 + i, 0, none⟩) (nmArgs.getD i [])) := fun W' hW' i hi => by
    have at_ : ∀ j, j < 23 → W'.heap[w.heap.size + j]? = (nmObjs w.heap.size)[j]? := fun j hj => (hW'.out.block _ (hlt1 j hj)).trans (HT.out j hj)
    have a0 := at_ 0 (by omega)
    have a21 := at_ 21 (by omega)
    have a22 := at_ 22 (by omega)
    have ai := at_ (1 + i) (by omega)
    rw [Nat.add_zero] at a0
    rw [show w.heap.size + (1 + i) = w.heap.size + 1 + i by omega] at ai
    have c0 : W'.heap[w.heap.size]? = some (.cells ((nmOps.map fun o => Value.int .u8 ((o : Nat) : Int)).toArray) 5) := a0
    have c21 : W'.heap[w.heap.size + 1 + 1 + 1 + 1 + 1 + 1 + 1 + 1 + 1 + 1 + 1 + 1 + 1 + 1 + 1 + 1 + 1 + 1 + 1 + 1 + 1]? = some (.cells (((List.range 20).map fun i => Value.slice (some ⟨w.heap.size + 1 + i, 0, none⟩) (nmArgs.getD i []).length (nmArgs.getD i []).length).toArray) 22) := a21
    have c22 : W'.heap[w.heap.size + 1 + 1 + 1 + 1 + 1 + 1 + 1 + 1 + 1 + 1 + 1 + 1 + 1 + 1 + 1 + 1 + 1 + 1 + 1 + 1 + 1 + 1]? = some (.cells ((nmWant.map fun n => Value.int .u64 ((n : Nat) : Int)).toArray) 24) := a22
    have ci : W'.heap[w.heap.size + 1 + i]? = some (.cells (((nmArgs.getD i []).map fun n => Value.int .u64 ((n : Nat) : Int)).toArray) 24) := by
      rw [ai]
      unfold nmObjs
      rw [List.cons_append, Nat.add_comm 1 i, List.getElem?_cons_succ, List.getElem?_append_left (by simp [nmArgs]; omega), List.getElem?_map]
      have : nmArgs[i]? = some (nmArgs.getD i []) := by simp [List.getD, List.getElem?_eq_getElem (show i < nmArgs.length by simp [nmArgs]; omega)]
      rw [this]; rfl
    have lO : i < nmOps.length := by simp [nmOps]; omega
    have lW : i < nmWant.length := by simp [nmWant]; omega
    refine ⟨?_, ?_, ?_, ?_⟩
    · unfold World.cell?; rw [c0]; simp [List.getD, List.getElem?_eq_getElem lO]
    · unfold World.cell?; rw [c21]; simp [hi]
    · unfold World.cell?; rw [c22]; simp [List.getD, List.getElem?_eq_getElem lW]
    · refine .inr ⟨_, 0, rfl, (Array.getElem?_eq_some_iff.1 ci).1, fun j hj => ?_⟩
      generalize nmArgs.getD i [] = ns at ci hj
      unfold World.cell?; rw [ci]; simp [List.getD, List.getElem?_eq_getElem hj]
  have hb0 : Hid (Below w1.heap.size w1 w1) := Below.refl _ _
  have HE1 : Hid (OpEnv w1) := HE.out.below HB1.out
  rw [hw1]
  clear hw1 HT hlt1 HE
  obtain ⟨rA, hrA⟩ : ∃ r, w.heap.size + 1 + 1 + 1 + 1 + 1 + 1 + 1 + 1 + 1 + 1 + 1 + 1 + 1 + 1 + 1 + 1 + 1 + 1 + 1 + 1 + 1 = r := ⟨_, rfl⟩
  obtain ⟨rW, hrW⟩ : ∃ r, w.heap.size + 1 + 1 + 1 + 1 + 1 + 1 + 1 + 1 + 1 + 1 + 1 + 1 + 1 + 1 + 1 + 1 + 1 + 1 + 1 + 1 + 1 + 1 = r := ⟨_, rfl⟩
  rw [hrW] at HC ⊢
  rw [hrA] at HC ⊢
  clear hrA hrW
  go_loopw [4] (fun i wr => ∃ j : Nat, i = .int .i64 j ∧ j ≤ 20 ∧ Hid (Below w1.heap.size w1 wr)) (fun i _ => 20 - (intOf i).toNat)
  case atStart => exact ⟨0, rfl, by omega, hb0⟩
  case round =>
    obtain ⟨j, rfl, hj, HB⟩ := hrel
    clear hb0
    by_cases hlt : j < 20
    · have hj1 : (j : Int) < 20 := by omega
      have hj0 : (0 : Int) ≤ (j : Int) := by omega
      obtain ⟨e1, e2, e3, e4, e5⟩ := nm_all j hlt
      have HCj : Hid (∀ W', Hid (Below w1.heap.size w1 W') → _) := fun W' hW' => HC.out W' hW' j hlt
      obtain ⟨o, ho⟩ : ∃ o, nmOps.getD j 0 = o := ⟨_, rfl⟩
      obtain ⟨ns, hns⟩ : ∃ o, nmArgs.getD j [] = o := ⟨_, rfl⟩
      obtain ⟨x, hx⟩ : ∃ o, nmWant.getD j 0 = o := ⟨_, rfl⟩
      rw [ho, hns, hx] at HCj
      rw [ho, hns, hx] at e1
      rw [ho, hns] at e2
      rw [ho] at e3
      rw [hns] at e4 e5
      obtain ⟨l, hl⟩ : ∃ l, ns.length = l := ⟨_, rfl⟩
      rw [hl] at HCj e4
      have KI : Hid (∀ W', Hid (Below w1.heap.size w1 W') → Calls Tryd.prog 22 #[.int .u64 (x : Int), .int .u8 (o : Int), .int .i64 3, .slice (some ⟨w.heap.size + 1 + j, 0, none⟩) l l] W' fun e w' => e = .returned (.bool true) ∧ Hid (Below w1.heap.size w1 w')) := fun W' hW' =>
        (is_true (want := (x : Int)) (o := o) (n := 3) (ns := ns) (l := l) (by rw [e1]) e2 hl e3 (fun n hn => by have := List.all_eq_true.1 e5 n hn; simp at this; omega) (len3 e4) _ l W' (HCj.out W' hW').2.2.2 (HE1.out.below hW'.out)).mono fun e w' ⟨he, hb⟩ => ⟨he, hW'.out.trans (hb.mono hW'.out.size)⟩
      have HH : Hid (∀ W', Hid (Below w1.heap.size w1 W') → W'.cell? ⟨w.heap.size, j, none⟩ = some (.int .u8 (o : Int)) ∧ W'.cell? ⟨rA, j, none⟩ = some (.slice (some ⟨w.heap.size + 1 + j, 0, none⟩) l l) ∧ W'.cell? ⟨rW, j, none⟩ = some (.int .u64 (x : Int)) ∧ Hid (Below w1.heap.size w1 W')) := fun W' hW' => ⟨(HCj.out W' hW').1, (HCj.out W' hW').2.1, (HCj.out W' hW').2.2.1, hW'⟩
      have HD : Hid (Below w1.heap.size w1 wr.drew) := HB.out.drew
      clear e1 e2 e3 e4 e5 ho hns hx hl HCj HC HB
      go_wp2
      go_region_held3 (fun W' => W'.cell? ⟨w.heap.size, j, none⟩ = some (.int .u8 (o : Int)) ∧ W'.cell? ⟨rA, j, none⟩ = some (.slice (some ⟨w.heap.size + 1 + j, 0, none⟩) l l) ∧ W'.cell? ⟨rW, j, none⟩ = some (.int .u64 (x : Int)) ∧ Hid (Below w1.heap.size w1 W')) (first | exact HH.out _ HD | exact HH.out _ (by assumption))
        ((go_at_call 22; refine (KI.out _ (by assumption)).mono ?_; rintro e w' ⟨rfl, hb⟩))
      all_goals
        go_wp2
        go_roundw
        case rel => exact ⟨j + 1, by go_num, by omega, by assumption⟩
        case measure => simp [intOf]; omega
    · obtain rfl : j = 20 := by omega
      clear HC hlt hj
      have T1 : Hid (∀ W', Hid (Below w1.heap.size w1 W') → Calls Tryd.prog 16 #[.int .i64 4, .int .u64 31] W' fun e w' => e = .returned (.tuple #[.int .u64 15, .int .i64 0]) ∧ Hid (Below w1.heap.size w1 w')) := fun W' hW' =>
        (trim_any 4 31 (by omega) W').mono fun e w' ⟨he, hb⟩ => ⟨he.trans (by rw [show trV 4 31 = 15 by decide +kernel, show chk 4 = 0 by decide +kernel]; rfl), hW'.out.trans (hb.mono hW'.out.size)⟩
      have T2 : Hid (∀ W', Hid (Below w1.heap.size w1 W') → Calls Tryd.prog 16 #[.int .i64 65, .int .u64 0] W' fun e w' => e = .returned (.tuple #[.int .u64 0, .int .i64 3]) ∧ Hid (Below w1.heap.size w1 w')) := fun W' hW' =>
        (trim_any 65 0 (by omega) W').mono fun e w' ⟨he, hb⟩ => ⟨he.trans (by rw [show trV 65 0 = 0 by decide +kernel, show chk 65 = 3 by decide +kernel]; rfl), hW'.out.trans (hb.mono hW'.out.size)⟩
      have S1 : Hid (∀ W', Hid (Below w1.heap.size w1 W') → Calls Tryd.prog 18 #[.int .i64 4, .int .u64 24] W' fun e w' => e = .returned (.tuple #[.int .i64 (-8), .int .i64 0]) ∧ Hid (Below w1.heap.size w1 w')) := fun W' hW' =>
        (signed_any 4 24 (by omega) W').mono fun e w' ⟨he, hb⟩ => ⟨he.trans (by rw [show sgV 4 24 = -8 by decide +kernel, show chk 4 = 0 by decide +kernel]), hW'.out.trans (hb.mono hW'.out.size)⟩
      have S2 : Hid (∀ W', Hid (Below w1.heap.size w1 W') → Calls Tryd.prog 18 #[.int .i64 64, .int .u64 18446744073709551615] W' fun e w' => e = .returned (.tuple #[.int .i64 (-1), .int .i64 0]) ∧ Hid (Below w1.heap.size w1 w')) := fun W' hW' =>
        (signed_any 64 18446744073709551615 (by omega) W').mono fun e w' ⟨he, hb⟩ => ⟨he.trans (by rw [show sgV 64 18446744073709551615 = -1 by decide +kernel, show chk 64 = 0 by decide +kernel]), hW'.out.trans (hb.mono hW'.out.size)⟩
      have S3 : Hid (∀ W', Hid (Below w1.heap.size w1 W') → Calls Tryd.prog 18 #[.int .i64 63, .int .u64 4611686018427387904] W' fun e w' => e = .returned (.tuple #[.int .i64 (-4611686018427387904), .int .i64 0]) ∧ Hid (Below w1.heap.size w1 w')) := fun W' hW' =>
        (signed_any 63 4611686018427387904 (by omega) W').mono fun e w' ⟨he, hb⟩ => ⟨he.trans (by rw [show sgV 63 4611686018427387904 = -4611686018427387904 by decide +kernel, show chk 63 = 0 by decide +kernel]), hW'.out.trans (hb.mono hW'.out.size)⟩
      have C1 : Hid (∀ W', Calls Tryd.prog 20 #[.int .i64 0] W' fun e w' => e = .returned (.int .i64 3) ∧ W' = w') := fun W' => (check_is 0 W').mono fun e w' ⟨he, hb⟩ => ⟨he.trans (by rw [show chk 0 = 3 by decide +kernel]), hb⟩
      have C2 : Hid (∀ W', Calls Tryd.prog 20 #[.int .i64 64] W' fun e w' => e = .returned (.int .i64 0) ∧ W' = w') := fun W' => (check_is 64 W').mono fun e w' ⟨he, hb⟩ => ⟨he.trans (by rw [show chk 64 = 0 by decide +kernel]), hb⟩
      have A1 : Hid (∀ W', Hid (Below w1.heap.size w1 W') → Calls Tryd.prog 13 #[.int .u8 1, .int .i64 3, .slice none 0 0] W' fun e w' => e = .returned (.tuple #[.int .u64 0, .int .i64 3]) ∧ Hid (Below w1.heap.size w1 w')) := fun W' hW' =>
        (apply_len (o := 1) (n := 3) (ns := []) (l := 0) (v := 0) (f := 3) rfl (by decide +kernel) (by decide +kernel) (by omega) (by simp) (len3 (by omega)) none 0 W' (.inl rfl) (HE1.out.below hW'.out)).mono fun e w' ⟨he, hb⟩ => ⟨he, hW'.out.trans (hb.mono hW'.out.size)⟩
      have A2 : Hid (∀ W', Hid (Below w1.heap.size w1 W') → Calls Tryd.prog 13 #[.int .u8 4, .int .i64 3, .slice (some ⟨W'.heap.size, 0, none⟩) 1 1] (W'.alloc (.cells #[.int .u64 1] 24)) fun e w' => e = .returned (.tuple #[.int .u64 0, .int .i64 2]) ∧ Hid (Below w1.heap.size w1 w')) := fun W' hW' => by
        have hA := hW'.out.alloc hW'.out.size (.cells #[.int .u64 1] 24)
        exact (apply_len (o := 4) (n := 3) (ns := [1]) (l := 1) (v := 0) (f := 2) rfl (by decide +kernel) (by decide +kernel) (by omega) (by simp) (len3 (by omega)) (some ⟨W'.heap.size, 0, none⟩) 1 _ (NumsR.lit W' _ _ _ rfl (by simp)) (HE1.out.below hA)).mono fun e w' ⟨he, hb⟩ => ⟨he, hA.trans (hb.mono hA.size)⟩
      have A3 : Hid (∀ W', Hid (Below w1.heap.size w1 W') → Calls Tryd.prog 13 #[.int .u8 4, .int .i64 0, .slice (some ⟨W'.heap.size, 0, none⟩) 1 1] (W'.alloc (.cells #[.int .u64 1] 24)) fun e w' => e = .returned (.tuple #[.int .u64 0, .int .i64 3]) ∧ Hid (Below w1.heap.size w1 w')) := fun W' hW' => by
        have hA := hW'.out.alloc hW'.out.size (.cells #[.int .u64 1] 24)
        exact (apply_len (o := 4) (n := 0) (ns := [1]) (l := 1) (v := 0) (f := 3) rfl (by decide +kernel) (by decide +kernel) (by omega) (by simp) (len3 (by omega)) (some ⟨W'.heap.size, 0, none⟩) 1 _ (NumsR.lit W' _ _ _ rfl (by simp)) (HE1.out.below hA)).mono fun e w' ⟨he, hb⟩ => ⟨he, hA.trans (hb.mono hA.size)⟩
      have A4 : Hid (∀ W', Hid (Below w1.heap.size w1 W') → Calls Tryd.prog 13 #[.int .u8 22, .int .i64 3, .slice none 0 0] W' fun e w' => e = .returned (.tuple #[.int .u64 0, .int .i64 3]) ∧ Hid (Below w1.heap.size w1 w')) := fun W' hW' =>
        (apply_len (o := 22) (n := 3) (ns := []) (l := 0) (v := 0) (f := 3) rfl (by decide +kernel) (by decide +kernel) (by omega) (by simp) (len3 (by omega)) none 0 W' (.inl rfl) (HE1.out.below hW'.out)).mono fun e w' ⟨he, hb⟩ => ⟨he, hW'.out.trans (hb.mono hW'.out.size)⟩
      have I1 : Hid (∀ W', Hid (Below w1.heap.size w1 W') → Calls Tryd.prog 22 #[.int .u64 0, .int .u8 6, .int .i64 64, .slice (some ⟨W'.heap.size, 0, none⟩) 2 2] (W'.alloc (.cells #[.int .u64 4294967296, .int .u64 4294967296] 24)) fun e w' => e = .returned (.bool true) ∧ Hid (Below w1.heap.size w1 w')) := fun W' hW' => by
        have hA := hW'.out.alloc hW'.out.size (.cells #[.int .u64 4294967296, .int .u64 4294967296] 24)
        exact (is_true (want := 0) (o := 6) (n := 64) (ns := [4294967296, 4294967296]) (l := 2) (by decide +kernel) (by decide +kernel) rfl (by omega) (by simp) (len3 (by omega)) (some ⟨W'.heap.size, 0, none⟩) 2 _ (NumsR.lit W' _ _ _ rfl (by simp)) (HE1.out.below hA)).mono fun e w' ⟨he, hb⟩ => ⟨he, hA.trans (hb.mono hA.size)⟩
      have I2 : Hid (∀ W', Hid (Below w1.heap.size w1 W') → Calls Tryd.prog 22 #[.int .u64 1, .int .u8 14, .int .i64 1, .slice (some ⟨W'.heap.size, 0, none⟩) 2 2] (W'.alloc (.cells #[.int .u64 1, .int .u64 0] 24)) fun e w' => e = .returned (.bool true) ∧ Hid (Below w1.heap.size w1 w')) := fun W' hW' => by
        have hA := hW'.out.alloc hW'.out.size (.cells #[.int .u64 1, .int .u64 0] 24)
        exact (is_true (want := 1) (o := 14) (n := 1) (ns := [1, 0]) (l := 2) (by decide +kernel) (by decide +kernel) rfl (by omega) (by simp) (len3 (by omega)) (some ⟨W'.heap.size, 0, none⟩) 2 _ (NumsR.lit W' _ _ _ rfl (by simp)) (HE1.out.below hA)).mono fun e w' ⟨he, hb⟩ => ⟨he, hA.trans (hb.mono hA.size)⟩
      have I3 : Hid (∀ W', Hid (Below w1.heap.size w1 W') → Calls Tryd.prog 22 #[.int .u64 1, .int .u8 19, .int .i64 1, .slice (some ⟨W'.heap.size, 0, none⟩) 2 2] (W'.alloc (.cells #[.int .u64 1, .int .u64 0] 24)) fun e w' => e = .returned (.bool true) ∧ Hid (Below w1.heap.size w1 w')) := fun W' hW' => by
        have hA := hW'.out.alloc hW'.out.size (.cells #[.int .u64 1, .int .u64 0] 24)
        exact (is_true (want := 1) (o := 19) (n := 1) (ns := [1, 0]) (l := 2) (by decide +kernel) (by decide +kernel) rfl (by omega) (by simp) (len3 (by omega)) (some ⟨W'.heap.size, 0, none⟩) 2 _ (NumsR.lit W' _ _ _ rfl (by simp)) (HE1.out.below hA)).mono fun e w' ⟨he, hb⟩ => ⟨he, hA.trans (hb.mono hA.size)⟩
      have KN : Hid (∀ W', Hid (Below w1.heap.size w1 W') → Calls Tryd.prog 12 #[] W' fun e w' => e = .returned (.bool true) ∧ Hid (Below w1.heap.size w1 w')) := fun W' hW' => (Words.known_any W' (HE1.out.below hW'.out)).mono fun e w' ⟨he, hb⟩ => ⟨he, hW'.out.trans (hb.mono hW'.out.size)⟩
      clear HE1
      go_wp2_with (first | (go_at_call 16; with_reducible refine (T1.out _ (by assumption)).mono ?_; rintro e w' ⟨rfl, hb⟩) | (go_at_call 16; with_reducible refine (T2.out _ (by assumption)).mono ?_; rintro e w' ⟨rfl, hb⟩) | (go_at_call 18; with_reducible refine (S1.out _ (by assumption)).mono ?_; rintro e w' ⟨rfl, hb⟩) | (go_at_call 18; with_reducible refine (S2.out _ (by assumption)).mono ?_; rintro e w' ⟨rfl, hb⟩) | (go_at_call 18; with_reducible refine (S3.out _ (by assumption)).mono ?_; rintro e w' ⟨rfl, hb⟩) | (go_at_call 20; with_reducible refine (C1.out _).mono ?_; rintro e w' ⟨rfl, rfl⟩) | (go_at_call 20; with_reducible refine (C2.out _).mono ?_; rintro e w' ⟨rfl, rfl⟩) | (go_at_call 13; with_reducible refine (A1.out _ (by assumption)).mono ?_; rintro e w' ⟨rfl, hb⟩) | (go_at_call 13; with_reducible refine (A2.out _ (by assumption)).mono ?_; rintro e w' ⟨rfl, hb⟩) | (go_at_call 13; with_reducible refine (A3.out _ (by assumption)).mono ?_; rintro e w' ⟨rfl, hb⟩) | (go_at_call 13; with_reducible refine (A4.out _ (by assumption)).mono ?_; rintro e w' ⟨rfl, hb⟩) | (go_at_call 22; with_reducible refine (I1.out _ (by assumption)).mono ?_; rintro e w' ⟨rfl, hb⟩) | (go_at_call 22; with_reducible refine (I2.out _ (by assumption)).mono ?_; rintro e w' ⟨rfl, hb⟩) | (go_at_call 22; with_reducible refine (I3.out _ (by assumption)).mono ?_; rintro e w' ⟨rfl, hb⟩) | (go_at_call 12; with_reducible refine (KN.out _ (by assumption)).mono ?_; rintro e w' ⟨rfl, hb⟩))
      go_ret
      exact ⟨rfl, HB1.out.trans (Below.mono (Hid.out (p := Below w1.heap.size w1 _) (by assumption)) HB1.out.size)⟩
end Go.Proofs.YtldcekejbnhloaaDoor
