/-
  Layer word: the signed operators, words out of numbers, the table of the operators, and the result of an operator for the numbers of a list.
-/
import Derived.Test.YtldcekejbnhloaaDoorWrdB
import Derived.Test.YtldcekejbnhloaaDoorOpC
import Derived.Deep.RegionHeld3
set_option linter.unusedSectionVars false
set_option linter.unusedVariables false
namespace Go.Proofs.YtldcekejbnhloaaDoor.Words
open Go.RowKit Go.Lib
open Go.RowKit (Below)

/-- The block p holds the word a of width W. -/
def Box (w : World) (p W a : Nat) : Prop := w.heap[p]? = some (.cells #[.int .i64 (W : Int), .int .u64 (a : Int)] 55)
theorem Box.new (w : World) (W a : Nat) : Box (w.alloc (.cells #[.int .i64 (W : Int), .int .u64 (a : Int)] 55)) w.heap.size W a := heap_alloc_new _ _
theorem Box.lt {w : World} {p W a : Nat} (h : Box w p W a) : p < w.heap.size := (Array.getElem?_eq_some_iff.1 h).1
theorem Box.c0 {w : World} {p W a : Nat} (h : Box w p W a) : w.cell? ⟨p, 0, none⟩ = some (.int .i64 (W : Int)) := by unfold Box at h; simp [World.cell?, h]
theorem Box.c1 {w : World} {p W a : Nat} (h : Box w p W a) : w.cell? ⟨p, 1, none⟩ = some (.int .u64 (a : Int)) := by unfold Box at h; simp [World.cell?, h]
theorem Box.below {w w' : World} {p W a B : Nat} (h : Box w p W a) (hb : Below B w w') (hp : p < B) : Box w' p W a := (hb.block p hp).trans h

section
variable {W a b c : Nat} (h1 : 1 ≤ W) (h : W ≤ 64) (ha : a < 2 ^ W) (hb : b < 2 ^ W) (hc : c < 2 ^ W) (w : World)
include h1 h
theorem ro_slt : Raw W 19 a b c (.returned (.int .u64 ((bitN (decide (sgn W a < sgn W b)) : Nat) : Int))) := ro_bit h1 h 19 _ rfl
theorem ro_sle : Raw W 20 a b c (.returned (.int .u64 ((bitN (decide (sgn W a ≤ sgn W b)) : Nat) : Int))) := ro_bit h1 h 20 _ rfl
include ha hb
set_option maxRecDepth 20000 in
theorem m_sar : Calls Tryd.prog 52 #[W2 W a, W2 W b] w fun e w' => Raw W 14 a b c e ∧ Below w.heap.size w w' := by
  have HR := Lib.hid (ro_sar (b := b) (c := c) h ha)
  obtain ⟨w2, hw2⟩ : ∃ w2, (w.alloc (Obj.cells #[Value.int IntKind.i64 ↑W, Value.int IntKind.u64 ↑a] 55)).alloc (Obj.cells #[Value.int IntKind.i64 ↑W, Value.int IntKind.u64 ↑b] 55) = w2 := ⟨_, rfl⟩
  have X1 : Box w2 w.heap.size W a := by
    rw [← hw2]; exact (Box.new w W a).below (B := (w.alloc (Obj.cells #[Value.int IntKind.i64 ↑W, Value.int IntKind.u64 ↑a] 55)).heap.size) ((Below.refl _ _).alloc (Nat.le_refl _) _) (by simp)
  have X2 : Box w2 (w.heap.size + 1) W b := by
    have := Box.new (w.alloc (Obj.cells #[Value.int IntKind.i64 ↑W, Value.int IntKind.u64 ↑a] 55)) W b
    rw [← hw2]; simpa using this
  have HB : Hid (Below w.heap.size w w2) := by
    unfold Hid; rw [← hw2]; exact ((Below.refl _ _).alloc (Nat.le_refl _) _).alloc (by simp) _
  have HH : Hid (∀ W', Hid (Below w2.heap.size w2 W') → W'.cell? ⟨w.heap.size, 0, none⟩ = some (.int .i64 (W : Int)) ∧ W'.cell? ⟨w.heap.size, 1, none⟩ = some (.int .u64 (a : Int)) ∧ W'.cell? ⟨w.heap.size + 1, 0, none⟩ = some (.int .i64 (W : Int)) ∧ W'.cell? ⟨w.heap.size + 1, 1, none⟩ = some (.int .u64 (b : Int)) ∧ Hid (Below w2.heap.size w2 W')) := fun W' hW =>
    ⟨(X1.below hW.out X1.lt).c0, (X1.below hW.out X1.lt).c1, (X2.below hW.out X2.lt).c0, (X2.below hW.out X2.lt).c1, hW⟩
  have HD : Hid (Below w2.heap.size w2 w2.drew) := (Below.refl _ _).drew
  have K1 : Hid (∀ W', Hid (Below w2.heap.size w2 W') → Calls Tryd.prog 34 #[.agg #[.int .i64 (W : Int), .int .u64 (a : Int)]] W' fun e w' => e = .returned (.int .i64 (sgn W a)) ∧ Hid (Below w2.heap.size w2 w')) := fun W' hW =>
    (m_signed h1 h ha hb W').mono fun e w' ⟨he, hb⟩ => ⟨he, hW.out.trans (hb.mono hW.out.size)⟩
  have K2 : Hid (∀ W', Hid (Below w2.heap.size w2 W') → Calls Tryd.prog 34 #[.agg #[.int .i64 (W : Int), .int .u64 (b : Int)]] W' fun e w' => e = .returned (.int .i64 (sgn W b)) ∧ Hid (Below w2.heap.size w2 w')) := fun W' hW =>
    (m_signed h1 h hb ha W').mono fun e w' ⟨he, hb⟩ => ⟨he, hW.out.trans (hb.mono hW.out.size)⟩
  unfold W2
  clear h1 h ha hb X1 X2
  obtain ⟨s, hs⟩ : ∃ s, sgn W a = s := ⟨_, rfl⟩
  obtain ⟨t, ht⟩ : ∃ s, sgn W b = s := ⟨_, rfl⟩
  rw [hs] at HR
  rw [hs] at K1
  rw [ht] at K2
  clear hs ht
  go_enter Tryd.func52, Tryd.ntmps52
  go_wp2
  clear hw2
  go_region_held3 (fun W' => W'.cell? ⟨w.heap.size, 0, none⟩ = some (.int .i64 (W : Int)) ∧ W'.cell? ⟨w.heap.size, 1, none⟩ = some (.int .u64 (a : Int)) ∧ W'.cell? ⟨w.heap.size + 1, 0, none⟩ = some (.int .i64 (W : Int)) ∧ W'.cell? ⟨w.heap.size + 1, 1, none⟩ = some (.int .u64 (b : Int)) ∧ Hid (Below w2.heap.size w2 W')) (first | exact HH.out _ HD | exact HH.out _ (by assumption))
    ((go_at_call 34; refine (K1.out _ (by assumption)).mono ?_; rintro e w' ⟨rfl, hb⟩))
  all_goals
    go_wp2
    go_ret
    exact ⟨HR.out, HB.out.trans (Below.mono (Hid.out (p := Below w2.heap.size w2 _) (by assumption)) HB.out.size)⟩
set_option maxRecDepth 20000 in
theorem m_slt : Calls Tryd.prog 57 #[W2 W a, W2 W b] w fun e w' => Raw W 19 a b c e ∧ Below w.heap.size w w' := by
  have HR := Lib.hid (ro_slt (a := a) (b := b) (c := c) h1 h)
  obtain ⟨w2, hw2⟩ : ∃ w2, (w.alloc (Obj.cells #[Value.int IntKind.i64 ↑W, Value.int IntKind.u64 ↑a] 55)).alloc (Obj.cells #[Value.int IntKind.i64 ↑W, Value.int IntKind.u64 ↑b] 55) = w2 := ⟨_, rfl⟩
  have X1 : Box w2 w.heap.size W a := by
    rw [← hw2]; exact (Box.new w W a).below (B := (w.alloc (Obj.cells #[Value.int IntKind.i64 ↑W, Value.int IntKind.u64 ↑a] 55)).heap.size) ((Below.refl _ _).alloc (Nat.le_refl _) _) (by simp)
  have X2 : Box w2 (w.heap.size + 1) W b := by
    have := Box.new (w.alloc (Obj.cells #[Value.int IntKind.i64 ↑W, Value.int IntKind.u64 ↑a] 55)) W b
    rw [← hw2]; simpa using this
  have HB : Hid (Below w.heap.size w w2) := by
    unfold Hid; rw [← hw2]; exact ((Below.refl _ _).alloc (Nat.le_refl _) _).alloc (by simp) _
  have HH : Hid (∀ W', Hid (Below w2.heap.size w2 W') → W'.cell? ⟨w.heap.size, 0, none⟩ = some (.int .i64 (W : Int)) ∧ W'.cell? ⟨w.heap.size, 1, none⟩ = some (.int .u64 (a : Int)) ∧ W'.cell? ⟨w.heap.size + 1, 0, none⟩ = some (.int .i64 (W : Int)) ∧ W'.cell? ⟨w.heap.size + 1, 1, none⟩ = some (.int .u64 (b : Int)) ∧ Hid (Below w2.heap.size w2 W')) := fun W' hW =>
    ⟨(X1.below hW.out X1.lt).c0, (X1.below hW.out X1.lt).c1, (X2.below hW.out X2.lt).c0, (X2.below hW.out X2.lt).c1, hW⟩
  have HD : Hid (Below w2.heap.size w2 w2.drew) := (Below.refl _ _).drew
  have K1 : Hid (∀ W', Hid (Below w2.heap.size w2 W') → Calls Tryd.prog 34 #[.agg #[.int .i64 (W : Int), .int .u64 (a : Int)]] W' fun e w' => e = .returned (.int .i64 (sgn W a)) ∧ Hid (Below w2.heap.size w2 w')) := fun W' hW =>
    (m_signed h1 h ha hb W').mono fun e w' ⟨he, hb⟩ => ⟨he, hW.out.trans (hb.mono hW.out.size)⟩
  have K2 : Hid (∀ W', Hid (Below w2.heap.size w2 W') → Calls Tryd.prog 34 #[.agg #[.int .i64 (W : Int), .int .u64 (b : Int)]] W' fun e w' => e = .returned (.int .i64 (sgn W b)) ∧ Hid (Below w2.heap.size w2 w')) := fun W' hW =>
    (m_signed h1 h hb ha W').mono fun e w' ⟨he, hb⟩ => ⟨he, hW.out.trans (hb.mono hW.out.size)⟩
  unfold W2
  clear h1 h ha hb X1 X2
  obtain ⟨s, hs⟩ : ∃ s, sgn W a = s := ⟨_, rfl⟩
  obtain ⟨t, ht⟩ : ∃ s, sgn W b = s := ⟨_, rfl⟩
  rw [hs, ht] at HR
  rw [hs] at K1
  rw [ht] at K2
  clear hs ht
  go_enter Tryd.func57, Tryd.ntmps57
  go_wp2
  clear hw2
  go_region_held3 (fun W' => W'.cell? ⟨w.heap.size, 0, none⟩ = some (.int .i64 (W : Int)) ∧ W'.cell? ⟨w.heap.size, 1, none⟩ = some (.int .u64 (a : Int)) ∧ W'.cell? ⟨w.heap.size + 1, 0, none⟩ = some (.int .i64 (W : Int)) ∧ W'.cell? ⟨w.heap.size + 1, 1, none⟩ = some (.int .u64 (b : Int)) ∧ Hid (Below w2.heap.size w2 W')) (first | exact HH.out _ HD | exact HH.out _ (by assumption))
    (first | (go_at_call 34; with_reducible refine (K1.out _ (by assumption)).mono ?_; rintro e w' ⟨rfl, hb⟩) | (go_at_call 34; with_reducible refine (K2.out _ (by assumption)).mono ?_; rintro e w' ⟨rfl, hb⟩) | (go_at_call 62; refine (truth_is _ _).mono ?_; rintro e w' ⟨rfl, rfl⟩))
  all_goals
    go_wp2
    go_ret
    exact ⟨HR.out, HB.out.trans (Below.mono (Hid.out (p := Below w2.heap.size w2 _) (by assumption)) HB.out.size)⟩
set_option maxRecDepth 20000 in
theorem m_sle : Calls Tryd.prog 58 #[W2 W a, W2 W b] w fun e w' => Raw W 20 a b c e ∧ Below w.heap.size w w' := by
  have HR := Lib.hid (ro_sle (a := a) (b := b) (c := c) h1 h)
  obtain ⟨w2, hw2⟩ : ∃ w2, (w.alloc (Obj.cells #[Value.int IntKind.i64 ↑W, Value.int IntKind.u64 ↑a] 55)).alloc (Obj.cells #[Value.int IntKind.i64 ↑W, Value.int IntKind.u64 ↑b] 55) = w2 := ⟨_, rfl⟩
  have X1 : Box w2 w.heap.size W a := by
    rw [← hw2]; exact (Box.new w W a).below (B := (w.alloc (Obj.cells #[Value.int IntKind.i64 ↑W, Value.int IntKind.u64 ↑a] 55)).heap.size) ((Below.refl _ _).alloc (Nat.le_refl _) _) (by simp)
  have X2 : Box w2 (w.heap.size + 1) W b := by
    have := Box.new (w.alloc (Obj.cells #[Value.int IntKind.i64 ↑W, Value.int IntKind.u64 ↑a] 55)) W b
    rw [← hw2]; simpa using this
  have HB : Hid (Below w.heap.size w w2) := by
    unfold Hid; rw [← hw2]; exact ((Below.refl _ _).alloc (Nat.le_refl _) _).alloc (by simp) _
  have HH : Hid (∀ W', Hid (Below w2.heap.size w2 W') → W'.cell? ⟨w.heap.size, 0, none⟩ = some (.int .i64 (W : Int)) ∧ W'.cell? ⟨w.heap.size, 1, none⟩ = some (.int .u64 (a : Int)) ∧ W'.cell? ⟨w.heap.size + 1, 0, none⟩ = some (.int .i64 (W : Int)) ∧ W'.cell? ⟨w.heap.size + 1, 1, none⟩ = some (.int .u64 (b : Int)) ∧ Hid (Below w2.heap.size w2 W')) := fun W' hW =>
    ⟨(X1.below hW.out X1.lt).c0, (X1.below hW.out X1.lt).c1, (X2.below hW.out X2.lt).c0, (X2.below hW.out X2.lt).c1, hW⟩
  have HD : Hid (Below w2.heap.size w2 w2.drew) := (Below.refl _ _).drew
  have K1 : Hid (∀ W', Hid (Below w2.heap.size w2 W') → Calls Tryd.prog 34 #[.agg #[.int .i64 (W : Int), .int .u64 (a : Int)]] W' fun e w' => e = .returned (.int .i64 (sgn W a)) ∧ Hid (Below w2.heap.size w2 w')) := fun W' hW =>
    (m_signed h1 h ha hb W').mono fun e w' ⟨he, hb⟩ => ⟨he, hW.out.trans (hb.mono hW.out.size)⟩
  have K2 : Hid (∀ W', Hid (Below w2.heap.size w2 W') → Calls Tryd.prog 34 #[.agg #[.int .i64 (W : Int), .int .u64 (b : Int)]] W' fun e w' => e = .returned (.int .i64 (sgn W b)) ∧ Hid (Below w2.heap.size w2 w')) := fun W' hW =>
    (m_signed h1 h hb ha W').mono fun e w' ⟨he, hb⟩ => ⟨he, hW.out.trans (hb.mono hW.out.size)⟩
  unfold W2
  clear h1 h ha hb X1 X2
  obtain ⟨s, hs⟩ : ∃ s, sgn W a = s := ⟨_, rfl⟩
  obtain ⟨t, ht⟩ : ∃ s, sgn W b = s := ⟨_, rfl⟩
  rw [hs, ht] at HR
  rw [hs] at K1
  rw [ht] at K2
  clear hs ht
  go_enter Tryd.func58, Tryd.ntmps58
  go_wp2
  clear hw2
  go_region_held3 (fun W' => W'.cell? ⟨w.heap.size, 0, none⟩ = some (.int .i64 (W : Int)) ∧ W'.cell? ⟨w.heap.size, 1, none⟩ = some (.int .u64 (a : Int)) ∧ W'.cell? ⟨w.heap.size + 1, 0, none⟩ = some (.int .i64 (W : Int)) ∧ W'.cell? ⟨w.heap.size + 1, 1, none⟩ = some (.int .u64 (b : Int)) ∧ Hid (Below w2.heap.size w2 W')) (first | exact HH.out _ HD | exact HH.out _ (by assumption))
    (first | (go_at_call 34; with_reducible refine (K1.out _ (by assumption)).mono ?_; rintro e w' ⟨rfl, hb⟩) | (go_at_call 34; with_reducible refine (K2.out _ (by assumption)).mono ?_; rintro e w' ⟨rfl, hb⟩) | (go_at_call 62; refine (truth_is _ _).mono ?_; rintro e w' ⟨rfl, rfl⟩))
  all_goals
    go_wp2
    go_ret
    exact ⟨HR.out, HB.out.trans (Below.mono (Hid.out (p := Below w2.heap.size w2 _) (by assumption)) HB.out.size)⟩
end
end Go.Proofs.YtldcekejbnhloaaDoor.Words
