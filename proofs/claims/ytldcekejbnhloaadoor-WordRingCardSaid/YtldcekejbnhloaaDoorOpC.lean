/-
  Layer op: Arity and Name once more, each answer by two letters; for the laws.
-/
import Derived.Test.YtldcekejbnhloaaDoorOpB
namespace Go.Proofs.YtldcekejbnhloaaDoor.Ops
open Go.RowKit Go.Lib
open Go.RowKit (Below)

def arA (o : Nat) : Nat := if o < 22 then arityN o else 0
def arE (o : Nat) : Int := if o < 22 then 0 else 3
def nmS (o : Nat) : ByteArray := if 2 ≤ o ∧ o < 22 then nameB o else ⟨#[]⟩
def nmE (o : Nat) : Int := if o < 22 then if o < 2 then 6 else 0 else 3
theorem ar_eq (o : Nat) : (if o < 22 then #[Value.int .i64 (arityN o), .int .i64 0] else #[.int .i64 0, .int .i64 3]) = #[.int .i64 (arA o : Int), .int .i64 (arE o)] := by
  unfold arA arE; split <;> rfl
theorem nm_eq (o : Nat) : (if o < 22 then if o < 2 then #[Value.string ⟨#[]⟩, .int .i64 6] else #[.string (nameB o), .int .i64 0] else #[.string ⟨#[]⟩, .int .i64 3]) = #[.string (nmS o), .int .i64 (nmE o)] := by
  unfold nmS nmE
  by_cases h : o < 22
  · by_cases h2 : o < 2
    · rw [if_pos h, if_pos h2, if_neg (by omega), if_pos h, if_pos h2]
    · rw [if_pos h, if_neg h2, if_pos (by omega), if_pos h, if_neg h2]
  · rw [if_neg h, if_neg (by omega), if_neg h]
theorem arity_two (o : Nat) (h1 : o ≤ 255) (w : World) (he : OpEnv w) : Calls Tryd.prog 27 #[.int .u8 o] w fun e w' => e = .returned (.tuple #[.int .i64 (arA o : Int), .int .i64 (arE o)]) ∧ w = w' := by
  have := arity_is o h1 w he; rwa [ar_eq] at this
theorem rarity_two (o : Nat) (h1 : o ≤ 255) (w : World) : Calls Tryd.prog 31 #[.int .u8 o] w fun e w' => e = .returned (.tuple #[.int .i64 (arA o : Int), .int .i64 (arE o)]) ∧ w = w' := by
  have := rarity_is o h1 w; rwa [ar_eq] at this
theorem nameB_inj {k j : Nat} (hk : k < 20) (hj : j < 20) (h : nameB (k + 2) = nameB (j + 2)) : k = j := by
  have : ((List.range 20).all fun k => (List.range 20).all fun j => !(nameL (k + 2) == nameL (j + 2)) || k == j) = true := by decide +kernel
  have h1 := List.all_eq_true.1 (List.all_eq_true.1 this k (List.mem_range.2 hk)) j (List.mem_range.2 hj)
  have h2 : nameL (k + 2) = nameL (j + 2) := by simpa [nameB] using congrArg (fun b => b.data.toList) h
  simpa [h2] using h1
theorem ofPost_same {s : ByteArray} {e e' : Ending} (h : OfPost s e) (h' : OfPost s e') : e = e' := by
  rcases h with ⟨k, hk, rfl, rfl⟩ | ⟨h, rfl⟩
  · rcases h' with ⟨j, hj, hn, rfl⟩ | ⟨h', _⟩
    · obtain rfl := nameB_inj hj hk hn; rfl
    · exact absurd rfl (h' k hk)
  · rcases h' with ⟨j, hj, hn, rfl⟩ | ⟨h', rfl⟩
    · exact absurd hn (h j hj)
    · rfl
/-- The sum of two bytes, as a byte. -/
theorem u8_sum (a b : Int) : ∃ k : Nat, k ≤ 255 ∧ (a + b) % 256 = k := ⟨((a + b) % 256).toNat, by omega, by omega⟩
theorem u8_of {a : Nat} (ha : a < 256) : IntKind.u8.wrap (a : Int) = a := by simp [IntKind.wrap, IntKind.bits, IntKind.signed]; omega
end Go.Proofs.YtldcekejbnhloaaDoor.Ops
