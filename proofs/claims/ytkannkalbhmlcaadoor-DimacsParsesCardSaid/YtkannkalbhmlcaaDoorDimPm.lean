/-
  The reference's Parse: its memory.
-/
import Derived.Test.YtkannkalbhmlcaaDoorDimHr
import Derived.Test.YtkannkalbhmlcaaDoorDimL
namespace Go.Proofs.YtkannkalbhmlcaaDoor
open Go.RowKit Go.Lib
open Go.RowKit (Below)

/-- wl: the world in which the lines lie; wc: the world at the last header or end of a clause. -/
structure PIn (wl wc wr : World) (b0 b1 : Nat) (r : Rd) (v u : Value) : Prop where
  f : Two wr b1 (.int .i64 r.vars) v
  res : Two wr b0 (.int .i64 0) (.slice none 0 0)
  kept : ∀ j, j < wl.heap.size → j ≠ b1 → wr.heap[j]? = wl.heap[j]?
  lt : b0 < b1 ∧ b1 < wl.heap.size
  sizes : wl.heap.size ≤ wc.heap.size
  rows : Built wc wl.heap.size v r.cls
  past : Below wc.heap.size wc wr
  cl : Own wr wc.heap.size u r.cl
def PAt (wl wr : World) (b0 b1 : Nat) (r : Rd) (v u : Value) : Prop := ∃ wc, PIn wl wc wr b0 b1 r v u
theorem PIn.size {wl wc wr : World} {b0 b1 : Nat} {r : Rd} {v u : Value} (h : PIn wl wc wr b0 b1 r v u) : wl.heap.size ≤ wr.heap.size := Nat.le_trans h.sizes h.past.size
theorem PIn.push {wl wc wr w1 : World} {b0 b1 : Nat} {r : Rd} {v u u' : Value} {x : Int} {ob : Obj} (h : PIn wl wc wr b0 b1 r v u) (hg : (wr.alloc ob).grownBy w1 u.ownBlock) (hown : w1.ownsRow wc.heap.size 3 1 u' (r.cl.length + 1) (r.cl.map (Value.int .i64) ++ [.int .i64 x])) :
    PAt wl w1 b0 b1 { r with cl := r.cl ++ [x] } v u' := by
  obtain ⟨l1, l2⟩ := h.lt
  have hs := h.size
  have hsz := h.sizes
  have hrow : ∀ j, u.ownBlock = some j → wc.heap.size ≤ j := fun j e => (World.ownsRow.lt h.cl j e).1
  have hst : ∀ j, j < wl.heap.size → w1.heap[j]? = wr.heap[j]? := fun j hj => (hg.block j (by simp; omega) (fun e => by have := hrow j e.symm; omega)).trans (Below.heap_alloc _ _ _ (by omega))
  refine ⟨wc, (hst b1 l2).trans h.f, (hst b0 (by omega)).trans h.res, fun j hj hne => (hst j hj).trans (h.kept j hj hne), h.lt, hsz, h.rows, ?_, ?_⟩
  · exact (h.past.alloc h.past.size ob).grown hg (by have := h.past.size; simp; omega) hrow
  · unfold Own
    rw [List.map_append, List.length_append]; exact hown
theorem PIn.close {wl wc wr w1 : World} {b0 b1 : Nat} {r : Rd} {v v' : Value} {a : Option Addr} {c : Nat} {vs : List Value} {ob : Obj} (h : PIn wl wc wr b0 b1 r v (.slice a r.cl.length c))
    (h1 : wr.ownsRow wl.heap.size 34 1 v r.cls.length vs) (h2 : ∀ (j : Nat) (z : List Int), r.cls[j]? = some z → ∃ u : Value, vs[j]? = some u ∧ InRow wr wl.heap.size v u z)
    (hg : (wr.alloc ob).grownBy w1 v.ownBlock) (hat : v'.ownBlock = v.ownBlock ∨ v'.ownBlock = some (wr.alloc ob).heap.size) (hown : w1.ownsRow wl.heap.size 34 1 v' (r.cls.length + 1) (vs ++ [.slice a r.cl.length c])) :
    Two w1 b1 (.int .i64 r.vars) v ∧ PAt wl (w1.setCell ⟨b1, 1, none⟩ v') b0 b1 { r with cls := r.cls ++ [r.cl], cl := [] } v' (.slice none 0 0) := by
  obtain ⟨l1, l2⟩ := h.lt
  have hs := h.size
  have hrow : ∀ j, v.ownBlock = some j → wl.heap.size ≤ j ∧ j < wr.heap.size := fun j e => World.ownsRow.lt h1 j e
  have hrow2 : ∀ j, v.ownBlock = some j → j < wc.heap.size := fun j e => by
    obtain ⟨us, h3, _⟩ := h.rows
    exact (World.ownsRow.lt h3 j e).2
  have hst : ∀ j, j < wl.heap.size → w1.heap[j]? = wr.heap[j]? := fun j hj => (hg.block j (by simp; omega) (fun e => by have := (hrow j e.symm).1; omega)).trans (Below.heap_alloc _ _ _ (by omega))
  have hT : Two w1 b1 (.int .i64 r.vars) v := (hst b1 l2).trans h.f
  obtain ⟨a', c', he, hI, hp⟩ := h.cl.parts
  injection he with e1 _ e3
  subst e1 e3
  have hB := Built.more (w := wr) (w0 := wr.alloc ob) h2 h1 (boxed wr ob) hg hat hown hI (fun p e => ⟨Nat.le_trans h.sizes (hp p e).1, (hp p e).2, fun e' => by have := hrow2 _ e'; have := (hp p e).1; omega⟩)
  have hsz1 : wl.heap.size ≤ w1.heap.size := by have := hg.size; simp at this; omega
  refine ⟨hT, w1.setCell ⟨b1, 1, none⟩ v', hT.set1 v', ?_, fun j hj hne => ?_, h.lt, by simpa using hsz1, hB.setCell (p := ⟨b1, 1, none⟩) l2 v', Below.refl _ _, Own.nil _ _⟩
  · exact ((Below.heap_setCell w1 ⟨b1, 1, none⟩ v' b0 (by simp; omega)).trans (hst b0 (by omega))).trans h.res
  · exact ((Below.heap_setCell w1 ⟨b1, 1, none⟩ v' j hne).trans (hst j hj)).trans (h.kept j hj hne)
theorem PIn.head {wl wc wr : World} {b0 b1 : Nat} {v u : Value} (h : PIn wl wc wr b0 b1 rd0 v u) (x k : Int) (hv : v = .slice none 0 0) (hu : u = .slice none 0 0) :
    PAt wl (wr.setCell ⟨b1, 0, none⟩ (.int .i64 x)) b0 b1 { rd0 with begun := true, vars := x, ann := k } v u := by
  subst hv hu
  obtain ⟨l1, l2⟩ := h.lt
  refine ⟨wr.setCell ⟨b1, 0, none⟩ (.int .i64 x), h.f.set0 _, (Below.heap_setCell wr ⟨b1, 0, none⟩ _ b0 (by simp; omega)).trans h.res, fun j hj hne => (Below.heap_setCell wr ⟨b1, 0, none⟩ _ j hne).trans (h.kept j hj hne), h.lt, by simpa using h.size, Built.nil _ _, Below.refl _ _, Own.nil _ _⟩
theorem PIn.words {wl wc wr : World} {b0 b1 B : Nat} {r : Rd} {v u : Value} {vs : List Value} {o : List (List ByteArray)} (h : PIn wl wc wr b0 b1 r v u) (hB : b1 < B) (ho : WordRows wl B (.slice none 0 0) vs o) : WordRows wr B (.slice none 0 0) vs o := fun j bs hj => by
  obtain ⟨a, c, h1, h2, h3⟩ := ho j bs hj
  refine ⟨a, c, h1, h2.stays fun p e => ?_, fun p e => ⟨(h3 p e).1, Nat.lt_of_lt_of_le (h3 p e).2.1 h.size, (h3 p e).2.2⟩⟩
  obtain ⟨g1, g2, _⟩ := h3 p e
  exact h.kept p.block g2 (by omega)
theorem PIn.outer {wl wc wr : World} {b0 b1 B n : Nat} {r : Rd} {v u x : Value} {vs : List Value} (h : PIn wl wc wr b0 b1 r v u) (hB : b1 < B) (ho : wl.ownsRow B 35 1 x n vs) : wr.ownsRow B 35 1 x n vs :=
  ownsRow_of_block ho fun g hg => h.kept g (World.ownsRow.lt ho g hg).2 (by have := (World.ownsRow.lt ho g hg).1; omega)
end Go.Proofs.YtkannkalbhmlcaaDoor
