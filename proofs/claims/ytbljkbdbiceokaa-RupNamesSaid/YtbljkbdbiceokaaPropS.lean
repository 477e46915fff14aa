/-
  Units of a formula of at most 12 variables; parts of lists and formulas; what a model says.
-/
import Derived.Test.YtbljkbdbiceokaaPropR
namespace Go.Proofs.Ytbljkbdbiceokaa
open Go.RowKit Go.Lib
open Go.RowKit (Below)

/-- What Units answers of a formula of at most 12 variables. -/
theorem unitsFit {V : Nat} (h1 : 1 ≤ V) (h2 : V ≤ 12) {zss : List (List Int)} (hb : fitB zss = true) {xs : List Int} (hx : ∀ x ∈ xs, -(V : Int) ≤ x ∧ x ≤ V ∧ x ≠ 0) (hl : xs.length ≤ maxLen) {a : Option Addr} {c : Nat} {xa : Option Addr} {xc : Nat} {w : World} (hR : RowsR .i64 w a (fitL V zss)) (hX : IntsR w xa xs) {l kx : Nat} (hll : (fitL V zss).length = l) (hk : xs.length = kx) :
    Calls Try.prog 28 #[.agg #[.int .i64 V, .slice a l c], .slice xa kx xc] w fun e w' => Below w.heap.size w w' ∧
      ((Fails (fitL V zss) xs ∧ e = .returned (.tuple #[.slice none 0 0, .bool true, .int .i64 0])) ∨ ∃ v u, Follows V (fitL V zss) xs u ∧ e = .returned (.tuple #[v, .bool false, .int .i64 0]) ∧ Own w' w.heap.size v u) := by
  subst hll hk
  have hmx : maxLen = 9223372036854775807 := rfl
  have hlen : (fitL V zss).length ≤ 30 := by rw [fitL_len]; exact (fitB_parts hb).1
  refine (units_any (n := V) a c xa xc w (by omega) (by omega) (fitL_all hb) hR hX hl (fit_rng (by omega) (by omega) zss) fun x hxx => by have := hx x hxx; constructor <;> omega).mono ?_
  rintro e w' ⟨hB, h⟩
  have hC := fit_checkP (V := V) (by omega) (by omega) hb hx
  refine ⟨hB, ?_⟩
  rcases h with ⟨h, _⟩ | ⟨_, h⟩ | ⟨_, h⟩
  · exact absurd hC h
  · exact .inl h
  · exact .inr h

end Go.Proofs.Ytbljkbdbiceokaa
