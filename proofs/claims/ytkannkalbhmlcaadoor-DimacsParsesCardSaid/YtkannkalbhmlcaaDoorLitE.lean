/-
  Slices of integers that the call itself made, and CopyInts.
-/
import Derived.Test.YtkannkalbhmlcaaDoorLitD
namespace Go.Proofs.YtkannkalbhmlcaaDoor
open Go.RowKit Go.Lib

/-- A slice that a call made itself, in blocks from B on: its elements are zs. -/
def Own (w : World) (B : Nat) (v : Value) (zs : List Int) : Prop := w.ownsRow B 3 1 v zs.length (zs.map (Value.int .i64))
theorem Own.reads {w : World} {B : Nat} {v : Value} {zs : List Int} (h : Own w B v zs) : ∃ a c, v = .slice a zs.length c ∧ IntsR w a zs := by
  obtain ⟨_, h | ⟨g, cap, cur, rfl, hg, hh, hn, hc, hs, ht⟩⟩ := h
  · obtain ⟨rfl, h0⟩ := h
    exact ⟨none, 0, by rw [h0], .inl h0⟩
  · refine ⟨_, cap, rfl, .inr ⟨g, 0, rfl, (Array.getElem?_eq_some_iff.1 hh).1, fun j hj => ?_⟩⟩
    have hjc : j < cur.size := by omega
    have h1 : cur.toList[j]? = some (Value.int .i64 (zs.getD j 0)) := by
      have h2 := congrArg (fun l : List Value => l[j]?) ht
      simp only [List.getElem?_take] at h2
      rw [if_pos (by omega)] at h2
      rw [h2, List.getElem?_map, getD_some zs 0 j hj]; rfl
    simp only [World.cell?, hh]
    simp only [Array.getElem?_toList] at h1
    simp [h1]
theorem Tryd.info3 : (Tryd.prog.info? 3).map (fun i => (i.zero, i.size, i.bytes)) = some (some (.int .i64 0), 1, 8) := by kernel_rfl

theorem take_snoc {α : Type} (zs : List α) (k : Nat) (x : α) (hx : zs[k]? = some x) : zs.take (k + 1) = zs.take k ++ [x] := by
  obtain ⟨hk, rfl⟩ := List.getElem?_eq_some_iff.1 hx
  exact List.take_succ_eq_append_getElem hk

theorem Own.of {w1 : World} {B n : Nat} {v' : Value} {ys : List Value} {zs : List Int} (h : w1.ownsRow B 3 1 v' n ys) (hn : n = zs.length) (hy : ys = zs.map (Value.int .i64)) : Own w1 B v' zs := by
  subst hn hy; exact h
theorem Own.below {w wr w1 : World} {B : Nat} {v : Value} {zs : List Int} {o : Obj} (h : Own wr B v zs) (hb : Below B w wr) (hB : B ≤ wr.heap.size) (hg : (wr.alloc o).grownBy w1 v.ownBlock) : Below B w w1 :=
  (hb.alloc hB o).grown hg (by simp; omega) (fun k hk => (h.lt k hk).1)

end Go.Proofs.YtkannkalbhmlcaaDoor
