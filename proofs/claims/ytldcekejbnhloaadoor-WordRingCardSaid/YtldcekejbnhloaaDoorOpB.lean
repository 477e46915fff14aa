/-
  Layer op: contract of Of (a range over the string of all names), of the reference's names, Name and Of, and of what every law asks at its end.
-/
import Derived.Test.YtldcekejbnhloaaDoorOpA
import Derived.Laws.RangeString
namespace Go.Proofs.YtldcekejbnhloaaDoor.Ops
open Go.RowKit Go.Lib
open Go.RowKit (Below)

/-! The string of all names: after p bytes k names have ended, and the next one begins at s. -/
def allL : List UInt8 := opNames.flatMap fun n => n ++ [32]
def allB : ByteArray := ⟨allL.toArray⟩
def kAt (p : Nat) : Nat := ((allL.take p).filter (· == 32)).length
def sAt (p : Nat) : Nat := p - ((allL.take p).reverse.takeWhile (· != 32)).length
def stepOk (p : Nat) : Bool :=
  let c := allL.getD p 0
  decide (c < 128) && (if c == 32 then (allL.drop (sAt p)).take (p - sAt p) == nameL (kAt p + 2) && decide (kAt p < 20) && kAt (p + 1) == kAt p + 1 && sAt (p + 1) == p + 1 && decide (sAt p ≤ p) else kAt (p + 1) == kAt p && sAt (p + 1) == sAt p)
theorem steps_ok : ∀ p, p < 75 → stepOk p = true := by
  have : ((List.range 75).all stepOk) = true := by decide +kernel
  intro p hp
  exact List.all_eq_true.1 this p (List.mem_range.2 hp)
theorem allB_size : allB.size = 75 := by decide +kernel
theorem kAt_end : kAt 75 = 20 := by decide +kernel
theorem step_blank {p : Nat} (hp : p < 75) (h : allL.getD p 0 = 32) : allB.extract (sAt p) p = nameB (kAt p + 2) ∧ kAt p < 20 ∧ kAt (p + 1) = kAt p + 1 ∧ sAt (p + 1) = p + 1 ∧ sAt p ≤ p := by
  have := steps_ok p hp
  unfold stepOk at this
  simp only [h, beq_self_eq_true, if_true, Bool.and_eq_true, beq_iff_eq, decide_eq_true_eq] at this
  obtain ⟨_, ⟨⟨⟨h1, h2⟩, h3⟩, h4⟩, h5⟩ := this
  refine ⟨?_, h2, h3, h4, h5⟩
  apply ByteArray.ext
  apply Array.ext'
  simp only [ByteArray.data_extract, Array.toList_extract, nameB]
  rw [← h1]
  simp [allB, List.extract]
theorem step_other {p : Nat} (hp : p < 75) (h : allL.getD p 0 ≠ 32) : kAt (p + 1) = kAt p ∧ sAt (p + 1) = sAt p := by
  have := steps_ok p hp
  unfold stepOk at this
  have hb : (allL.getD p 0 == 32) = false := by simpa using h
  simp only [hb, Bool.and_eq_true, beq_iff_eq, Bool.false_eq_true, if_false] at this
  exact this.2
theorem step_ascii {p : Nat} (hp : p < 75) : (allL.getD p 0).toNat < 128 := by
  have := steps_ok p hp
  unfold stepOk at this
  simp only [Bool.and_eq_true, decide_eq_true_eq] at this
  exact this.1
theorem allB_at {p : Nat} (hp : p < allB.size) : allB[p] = allL.getD p 0 := by
  have h2 : p < allL.length := hp
  show allL.toArray[p] = _
  simp [List.getD, h2]

def iterPos (wr : World) (b : Nat) : Nat := match wr.heap[b]? with | some (.stringIter _ p) => p | _ => 0
theorem iterPos_iter (w : World) (Z : ByteArray) (p : Nat) : iterPos (w.iter Z p) w.heap.size = p := by unfold iterPos; rw [World.iter_heap]
theorem below_iter (w : World) (Z : ByteArray) (p : Nat) : Below w.heap.size w (w.iter Z p) := (Below.refl _ _).alloc (Nat.le_refl _) _

/-- Which operator has the name s. -/
def OfPost (s : ByteArray) (e : Ending) : Prop :=
  (∃ k, k < 20 ∧ nameB (k + 2) = s ∧ e = .returned (.tuple #[.int .u8 ((k : Int) + 2), .int .i64 0])) ∨ ((∀ k, k < 20 → nameB (k + 2) ≠ s) ∧ e = .returned (.tuple #[.int .u8 0, .int .i64 6]))

theorem xor_of {e : Ending} (h : OfPost ⟨#[120, 111, 114]⟩ e) : e = .returned (.tuple #[.int .u8 11, .int .i64 0]) := by
  rcases h with ⟨k, hk, hn, rfl⟩ | ⟨h, _⟩
  · have hd := congrArg (fun b => b.data.toList) hn
    rcases k with _ | _ | _ | _ | _ | _ | _ | _ | _ | _ | _ | _ | _ | _ | _ | _ | _ | _ | _ | _ | k
    all_goals first | rfl | (exfalso; revert hd; decide) | omega
  · exact absurd rfl (h 9 (by omega))
end Go.Proofs.YtldcekejbnhloaaDoor.Ops
