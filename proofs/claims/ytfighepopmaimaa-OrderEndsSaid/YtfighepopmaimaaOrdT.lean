/-
  A slice of calls that came in; both heaps beside each other.
-/
import Derived.Test.YtfighepopmaimaaOrdS
namespace Go.Proofs.Ytfighepopmaimaa
open Go.RowKit Go.Lib
open Go.RowKit (Below)

/-- Calls that lie in memory: three cells each. -/
def CallsR (w : World) (a : Option Addr) (ts : List (Int × Int × Int)) : Prop :=
  ts.length = 0 ∨ ∃ b off, a = some ⟨b, off, none⟩ ∧ b < w.heap.size ∧ ∀ j, j < ts.length → w.cell? ⟨b, off + j * 3, none⟩ = some (.int .u8 (ts.getD j (0, 0, 0)).1) ∧ w.cell? ⟨b, off + j * 3 + 1, none⟩ = some (.int .i64 (ts.getD j (0, 0, 0)).2.1) ∧ w.cell? ⟨b, off + j * 3 + 2, none⟩ = some (.int .i64 (ts.getD j (0, 0, 0)).2.2)
def CallsWf (ts : List (Int × Int × Int)) : Prop := ∀ t ∈ ts, 0 ≤ t.1 ∧ t.1 ≤ 255
theorem CallsR.at {w : World} {a : Option Addr} {ts : List (Int × Int × Int)} (h : CallsR w a ts) (hwf : CallsWf ts) {k : Nat} (hk : k < ts.length) :
    ∃ b off x v y, a = some ⟨b, off, none⟩ ∧ (0 ≤ x ∧ x ≤ 255) ∧ ∀ w', Below w.heap.size w w' → w'.cell? ⟨b, off + k * 3, none⟩ = some (.int .u8 x) ∧ w'.cell? ⟨b, off + k * 3 + 1, none⟩ = some (.int .i64 v) ∧ w'.cell? ⟨b, off + k * 3 + 2, none⟩ = some (.int .i64 y) := by
  rcases h with h | ⟨b, off, ha, hb, hc⟩
  · omega
  · obtain ⟨h1, h2, h3⟩ := hc k hk
    refine ⟨b, off, (ts.getD k (0, 0, 0)).1, (ts.getD k (0, 0, 0)).2.1, (ts.getD k (0, 0, 0)).2.2, ha, hwf _ (List.mem_of_getElem? (getD_some ts (0, 0, 0) k hk)), fun w' hw => ?_⟩
    rw [hw.cell (p := ⟨b, off + k * 3, none⟩) hb, hw.cell (p := ⟨b, off + k * 3 + 1, none⟩) hb, hw.cell (p := ⟨b, off + k * 3 + 2, none⟩) hb]
    exact ⟨h1, h2, h3⟩
section
variable {w : World} {p q : Nat} {A : Hs}
/-- The program's heap and the reference's, alike. -/
abbrev Both (w : World) (p q : Nat) (A B : Hs) (W : World) : Prop := St w [HP p A, RF q B] W
theorem Both.bump1 {A B : Hs} {W : World} (h : Both w p q A B W) (v b : Int) : Calls Try.prog 14 #[.pointer (some ⟨p, 0, none⟩), .int .i64 v, .int .i64 b] W fun r w' => r = .returned (.int .i64 (A.bumpE v b)) ∧ Both w p q (A.bumpA v b) B w' := St.bump h (i := 0) rfl v b
theorem Both.bump2 {A B : Hs} {W : World} (h : Both w p q A B W) (v b : Int) : Calls Try.prog 15 #[.pointer (some ⟨q, 0, none⟩), .int .i64 v, .int .i64 b] W fun r w' => r = .returned (.int .i64 (B.bumpE v b)) ∧ Both w p q A (B.bumpA v b) w' := St.refBump h (i := 1) rfl v b
theorem Both.push1 {A B : Hs} {W : World} (h : Both w p q A B W) (v : Int) : Calls Try.prog 18 #[.pointer (some ⟨p, 0, none⟩), .int .i64 v] W fun r w' => r = .returned (.int .i64 (A.pushE v)) ∧ Both w p q (A.pushA v) B w' := St.push h (i := 0) rfl v
theorem Both.push2 {A B : Hs} {W : World} (h : Both w p q A B W) (v : Int) : Calls Try.prog 19 #[.pointer (some ⟨q, 0, none⟩), .int .i64 v] W fun r w' => r = .returned (.int .i64 (B.pushE v)) ∧ Both w p q A (B.pushA v) w' := St.refPush h (i := 1) rfl v
theorem Both.pop1 {A B : Hs} {W : World} (h : Both w p q A B W) : Calls Try.prog 16 #[.pointer (some ⟨p, 0, none⟩)] W fun r w' => r = .returned (.tuple #[.int .i64 A.popV, .int .i64 A.popE]) ∧ Both w p q A.popA B w' := St.pop h (i := 0) rfl
theorem Both.pop2 {A B : Hs} {W : World} (h : Both w p q A B W) : Calls Try.prog 17 #[.pointer (some ⟨q, 0, none⟩)] W fun r w' => r = .returned (.tuple #[.int .i64 B.popV, .int .i64 B.popE]) ∧ Both w p q A B.popA w' := St.refPop h (i := 1) rfl
theorem Both.has1 {A B : Hs} {W : World} (h : Both w p q A B W) (v : Int) : Calls Try.prog 20 #[.pointer (some ⟨p, 0, none⟩), .int .i64 v] W fun r w' => r = .returned (.bool (A.hasB v)) ∧ w' = W := (St.has h (i := 0) rfl v).mono fun _ _ ⟨h1, h2⟩ => ⟨h1, h2.symm⟩
theorem Both.has2 {A B : Hs} {W : World} (h : Both w p q A B W) (v : Int) : Calls Try.prog 21 #[.pointer (some ⟨q, 0, none⟩), .int .i64 v] W fun r w' => r = .returned (.bool (B.hasB v)) ∧ w' = W := (St.refHas h (i := 1) rfl v).mono fun _ _ ⟨h1, h2⟩ => ⟨h1, h2.symm⟩
theorem Both.len1 {A B : Hs} {W : World} (h : Both w p q A B W) : Calls Try.prog 22 #[.pointer (some ⟨p, 0, none⟩)] W fun r w' => r = .returned (.int .i64 A.lenN) ∧ w' = W := (St.len h (i := 0) rfl).mono fun _ _ ⟨h1, h2⟩ => ⟨h1, h2.symm⟩
theorem Both.len2 {A B : Hs} {W : World} (h : Both w p q A B W) : Calls Try.prog 23 #[.pointer (some ⟨q, 0, none⟩)] W fun r w' => r = .returned (.int .i64 B.lenN) ∧ w' = W := (St.refLen h (i := 1) rfl).mono fun _ _ ⟨h1, h2⟩ => ⟨h1, h2.symm⟩
end
end Go.Proofs.Ytfighepopmaimaa
