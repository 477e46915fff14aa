/-
  WordParts' walk.
-/
import Derived.Test.YtldcekejbnhloaaDoorWParts1
import Derived.Test.YtldcekejbnhloaaDoorWParts2
import Derived.Test.YtldcekejbnhloaaDoorWParts3
import Derived.Test.YtldcekejbnhloaaDoorWParts4
namespace Go.Proofs.YtldcekejbnhloaaDoor
open Go.RowKit Go.Lib Ops Words
open Go.RowKit (Below)

theorem wordParts_walk (w : World) (v : Int) (hv : (Lit.int .u8 v).wf = true) (o : Int) (ho : (Lit.int .u8 o).wf = true) (l : Int) (hl : (Lit.int .u8 l).wf = true) (x : Int) (hx : (Lit.int .u64 x).wf = true) (y : Int) (hy : (Lit.int .u64 y).wf = true) (z : Int) (hz : (Lit.int .u64 z).wf = true) (u : Int) (hu : (Lit.int .u64 u).wf = true) (he : Env w) :
    Calls Tryd.prog 11 #[.int .u8 v, .int .u8 o, .int .u8 l, .int .u64 x, .int .u64 y, .int .u64 z, .int .u64 u] w fun e w' => e = .returned (.bool true) ∧ Below w.heap.size w w' := by
  obtain ⟨v, rfl, lv⟩ : ∃ n : Nat, v = n ∧ n ≤ 255 := by have := u8_range hv; exact ⟨v.toNat, by omega, by omega⟩
  obtain ⟨o, rfl, lo⟩ : ∃ n : Nat, o = n ∧ n ≤ 255 := by have := u8_range ho; exact ⟨o.toNat, by omega, by omega⟩
  obtain ⟨l, rfl, ll⟩ : ∃ n : Nat, l = n ∧ n ≤ 255 := by have := u8_range hl; exact ⟨l.toNat, by omega, by omega⟩
  obtain ⟨x, rfl, lx⟩ := u64_nat hx
  obtain ⟨y, rfl, ly⟩ := u64_nat hy
  obtain ⟨z, rfl, lz⟩ := u64_nat hz
  obtain ⟨u, rfl, lu⟩ := u64_nat hu
  obtain ⟨k, hk⟩ : ∃ k, k = 2 + o % 20 := ⟨_, rfl⟩
  rcases (show k = 4 ∨ k = 5 ∨ k = 6 ∨ k = 2 ∨ k = 3 ∨ k = 9 ∨ k = 10 ∨ k = 11 ∨ k = 12 ∨ (k = 7 ∨ k = 8 ∨ (13 ≤ k ∧ k < 22)) by omega) with h | h | h | h | h | h | h | h | h | h
  · exact parts_op4 w v o l lv lo ll x y z u lx ly lz lu he k hk h
  · exact parts_op5 w v o l lv lo ll x y z u lx ly lz lu he k hk h
  · exact parts_op6 w v o l lv lo ll x y z u lx ly lz lu he k hk h
  · exact parts_op2 w v o l lv lo ll x y z u lx ly lz lu he k hk h
  · exact parts_op3 w v o l lv lo ll x y z u lx ly lz lu he k hk h
  · exact parts_op9 w v o l lv lo ll x y z u lx ly lz lu he k hk h
  · exact parts_op10 w v o l lv lo ll x y z u lx ly lz lu he k hk h
  · exact parts_op11 w v o l lv lo ll x y z u lx ly lz lu he k hk h
  · exact parts_2 w v o l lv lo ll x y z u lx ly lz lu he k hk h
  · exact parts_3 w v o l lv lo ll x y z u lx ly lz lu he k hk h
end Go.Proofs.YtldcekejbnhloaaDoor
