/-
  Parse: the deferred call; the loop over the lines; the whole.
-/
import Derived.Test.YtkannkalbhmlcaaDoorDimJ
namespace Go.Proofs.YtkannkalbhmlcaaDoor
open Go.RowKit Go.Lib Go.Shelf
open Go.RowKit (Below)
attribute [local go_sem] Oper.semAt_some

/-- The variables of the results, the reader's block behind them. -/
def Boxes (W : World) (f : Nat) (x v line err : Value) : Prop := W.heap[f]? = some (.cells #[x, v] 24 (0, 0)) ∧ W.heap[f + 1]? = some (.cells #[line] 3 (0, 0)) ∧ W.heap[f + 1 + 1]? = some (.cells #[err] 27 (0, 0))
theorem Boxes.kept {W W' : World} {f : Nat} {x v line err : Value} (h : Boxes W f x v line err) (hk : CellsKept W W') : Boxes W' f x v line err := ⟨hk _ _ _ _ h.1, hk _ _ _ _ h.2.1, hk _ _ _ _ h.2.2⟩
theorem Boxes.below {W W' : World} {f B : Nat} {x v line err : Value} (h : Boxes W f x v line err) (hb : Below B W W') (hB : f + 1 + 1 < B) : Boxes W' f x v line err :=
  ⟨(hb.block _ (by omega)).trans h.1, (hb.block _ (by omega)).trans h.2.1, (hb.block _ (by omega)).trans h.2.2⟩

def ClosePost (w : World) (f : Nat) (r : Rd) (v : Value) (line err : Int) (e : Ending) (w' : World) : Prop :=
  e = .returned (.tuple #[]) ∧ Boxes w' f (.int .i64 (if err = 0 then r.vars else 0)) (if err = 0 then v else .slice none 0 0) (.int .i64 (if err = 0 then 0 else line)) (.int .i64 err) ∧
    Below f w w' ∧ ∀ k, k < w.heap.size → k ≠ f → k ≠ f + 1 → k ≠ f + 1 + 1 → w'.heap[k]? = w.heap[k]?
theorem Boxes.close {w w1 : World} {f : Nat} {x v x' v' l' e' line err : Value} (h : Boxes w1 f x v line err) (hb : Below w.heap.size w w1) (hf : f + 1 + 1 < w.heap.size) :
    Boxes ((((w1.setCell ⟨f, 0, none⟩ x').setCell ⟨f, 1, none⟩ v').setCell ⟨f + 1, 0, none⟩ l').setCell ⟨f + 1 + 1, 0, none⟩ e') f x' v' l' e' ∧
      Below f w ((((w1.setCell ⟨f, 0, none⟩ x').setCell ⟨f, 1, none⟩ v').setCell ⟨f + 1, 0, none⟩ l').setCell ⟨f + 1 + 1, 0, none⟩ e') ∧
      ∀ k, k < w.heap.size → k ≠ f → k ≠ f + 1 → k ≠ f + 1 + 1 → ((((w1.setCell ⟨f, 0, none⟩ x').setCell ⟨f, 1, none⟩ v').setCell ⟨f + 1, 0, none⟩ l').setCell ⟨f + 1 + 1, 0, none⟩ e').heap[k]? = w.heap[k]? := by
  obtain ⟨h0, h1, h2⟩ := h
  refine ⟨⟨?_, ?_, ?_⟩, ?_, fun k hk g1 g2 g3 => ?_⟩
  · rw [heap_ne _ _ _ _ _ (by omega), heap_ne _ _ _ _ _ (by omega)]
    exact heap_set _ f 1 v' #[x', v] _ _ (heap_set _ f 0 x' #[x, v] _ _ h0)
  · rw [heap_ne _ _ _ _ _ (by omega)]
    refine heap_set _ (f + 1) 0 l' #[line] _ _ ?_
    rw [heap_ne _ _ _ _ _ (by omega), heap_ne _ _ _ _ _ (by omega)]; exact h1
  · refine heap_set _ (f + 1 + 1) 0 e' #[err] _ _ ?_
    rw [heap_ne _ _ _ _ _ (by omega), heap_ne _ _ _ _ _ (by omega), heap_ne _ _ _ _ _ (by omega)]; exact h2
  · exact ((((hb.mono (show f ≤ w.heap.size by omega)).trans (setBelow _ f 0 _)).trans (setBelow _ f 1 _)).trans ((setBelow _ (f + 1) 0 _).mono (by omega))).trans ((setBelow _ (f + 1 + 1) 0 _).mono (by omega))
  · rw [heap_ne _ _ _ _ _ g3, heap_ne _ _ _ _ _ g2, heap_ne _ _ _ _ _ g1, heap_ne _ _ _ _ _ g1]
    exact hb.block k hk

set_option maxRecDepth 100000 in
set_option maxHeartbeats 4000000 in
theorem close_d (n : Nat) (hn : 1 ≤ n) (w : World) (f b : Nat) (r : Rd) (v u x y l0 e0 : Value) (line err : Int) (um : FrameMode) (hI : RdIn w b r v u line err) (hB : Boxes w f x y l0 e0) (hfb : f + 1 + 1 < b) :
    CallsDIn Fence.wide n Tryd.prog 26 #[.pointer (some ⟨b, 0, none⟩), .pointer (some ⟨f, 0, none⟩), .pointer (some ⟨f + 1, 0, none⟩), .pointer (some ⟨f + 1 + 1, 0, none⟩)] um w fun e u' w' => u' = um ∧ ClosePost w f r v line err e w' := by
  have hlt := hI.lt
  obtain ⟨av, cv, rfl⟩ := hI.v_form
  have hC := result_any w b r _ u line err hI
  have HBx := Lib.hid hB
  clear hI hB
  unfold ResPost at hC
  have hfin : ∀ (X V L E : Value) (w1 : World), Below w.heap.size w w1 → X = .int .i64 (if err = 0 then r.vars else 0) → V = (if err = 0 then .slice av r.cls.length cv else .slice none 0 0) → L = .int .i64 (if err = 0 then 0 else line) → E = .int .i64 err →
      ClosePost w f r (.slice av r.cls.length cv) line err (.returned (.tuple #[])) ((((w1.setCell ⟨f, 0, none⟩ X).setCell ⟨f, 1, none⟩ V).setCell ⟨f + 1, 0, none⟩ L).setCell ⟨f + 1 + 1, 0, none⟩ E) := by
    intro X V L E w1 hb h1 h2 h3 h4
    have := (HBx.out.below hb (by omega)).close (x' := X) (v' := V) (l' := L) (e' := E) hb (by omega)
    subst h1 h2 h3 h4
    exact ⟨rfl, this⟩
  have HF := Lib.hid hfin
  clear hfin
  by_cases h : err = 0
  · simp only [if_pos h] at hC HF
    rw [h] at hC
    have HE := Lib.hid h
    have HC := Lib.hid hC
    clear hC h
    refine callsDIn_of_wp Tryd.func26 rfl trivial ?_ rfl
    simp only [Tryd.ntmps26, List.size_toArray, List.length_cons, List.length_nil, Nat.reduceAdd, Nat.reduceSub, Array.replicate_succ, Array.replicate_zero, List.push_toArray, List.append_toArray, List.nil_append, List.cons_append]
    gi_wp2
    refine ⟨trivial, ?_⟩
    refine (callsIn_wide.2 HC.out).mono ?_
    rintro e w1 ⟨rfl, hb⟩
    have hB1 := HBx.out.below hb (by omega)
    have c0 := heap_cell (i := 0) hB1.1 rfl
    have c1 := heap_cell (i := 1) hB1.1 rfl
    have c2 := heap_cell (i := 0) hB1.2.1 rfl
    have c3 := heap_cell (i := 0) hB1.2.2 rfl
    have z0 := heap_free (i := 0) hB1.1
    have z1 := heap_free (i := 1) hB1.1
    have z2 := heap_free (i := 0) hB1.2.1
    have z3 := heap_free (i := 0) hB1.2.2
    have Hb := Lib.hid hb
    clear hB1 hb
    gi_wp2
    go_end0
    exact HF.out _ _ _ _ _ Hb.out rfl rfl rfl (by rw [HE.out])
  · simp only [if_neg h] at hC HF
    have HC := Lib.hid hC
    clear hC h
    refine callsDIn_of_wp Tryd.func26 rfl trivial ?_ rfl
    simp only [Tryd.ntmps26, List.size_toArray, List.length_cons, List.length_nil, Nat.reduceAdd, Nat.reduceSub, Array.replicate_succ, Array.replicate_zero, List.push_toArray, List.append_toArray, List.nil_append, List.cons_append]
    gi_wp2
    refine ⟨trivial, ?_⟩
    refine (callsIn_wide.2 HC.out).mono ?_
    rintro e w1 ⟨rfl, hb⟩
    have hB1 := HBx.out.below hb (by omega)
    have c0 := heap_cell (i := 0) hB1.1 rfl
    have c1 := heap_cell (i := 1) hB1.1 rfl
    have c2 := heap_cell (i := 0) hB1.2.1 rfl
    have c3 := heap_cell (i := 0) hB1.2.2 rfl
    have z0 := heap_free (i := 0) hB1.1
    have z1 := heap_free (i := 1) hB1.1
    have z2 := heap_free (i := 0) hB1.2.1
    have z3 := heap_free (i := 0) hB1.2.2
    have Hb := Lib.hid hb
    clear hB1 hb
    gi_wp2
    go_end0
    exact HF.out _ _ _ _ _ Hb.out rfl rfl rfl rfl
end Go.Proofs.YtkannkalbhmlcaaDoor
