/-
  The formulas that Fit makes: valid, with short texts.
-/
import Derived.Test.YtkannkalbhmlcaaDoorDimQ
import Derived.Test.YtkannkalbhmlcaaDoorCnfF
namespace Go.Proofs.YtkannkalbhmlcaaDoor
open Go.RowKit Go.Lib
open Go.RowKit (Below)

theorem fitL_i64 {V : Int} (h1 : 1 ≤ V) (h2 : V ≤ 12) {zss : List (List Int)} : ∀ z ∈ fitL V zss, ∀ x ∈ z, I64 x := by
  intro z hz x hx
  obtain ⟨y, _, rfl⟩ := List.mem_map.1 hz
  have := fitZ_range V h1 y x hx
  unfold I64; omega
theorem fitL_ok {V : Int} (h1 : 1 ≤ V) (h2 : V ≤ 12) {zss : List (List Int)} (hb : fitB zss = true) : FmOk V (fitL V zss) := by
  obtain ⟨hl, hr⟩ := fitB_parts hb
  refine ⟨by omega, by rw [fitL_len]; omega, fun z hz => ?_⟩
  obtain ⟨y, hy, rfl⟩ := List.mem_map.1 hz
  have h3 := fitZ_le V y
  have h4 := hr y hy
  refine ⟨by omega, fun x hx => ?_⟩
  have := fitZ_range V h1 y x hx
  omega
theorem clauses_le (n : Nat) : ∀ (zss : List (List Int)), (∀ z ∈ zss, z.length ≤ n ∧ ∀ x ∈ z, I64 x) → (zss.flatMap clauseT).length ≤ (22 * n + 2) * zss.length
  | [], _ => by simp
  | z :: t, h => by
    have h1 := clauses_le n t (fun y hy => h y (by simp [hy]))
    have h2 := litsT_le z (h z (by simp)).2
    have h3 := (h z (by simp)).1
    rw [List.flatMap_cons, List.length_append, clauseT_eq, List.length_append]
    simp only [List.length_cons, List.length_nil, Nat.mul_add, Nat.mul_one]
    have h4 : 22 * z.length ≤ 22 * n := Nat.mul_le_mul_left _ h3
    omega
theorem fitL_text {V : Int} (h1 : 1 ≤ V) (h2 : V ≤ 12) {zss : List (List Int)} (hb : fitB zss = true) : (formT V (fitL V zss)).length ≤ 20000 := by
  obtain ⟨hl, hr⟩ := fitB_parts hb
  have h3 := clauses_le 20 (fitL V zss) (fun z hz => ⟨by
    obtain ⟨y, hy, rfl⟩ := List.mem_map.1 hz
    have h3 := fitZ_le V y
    have h4 := hr y hy
    omega, fitL_i64 h1 h2 z hz⟩)
  have h4 := (headT_le (V := V) (n := (fitL V zss).length) (by unfold I64; omega) (by rw [fitL_len]; omega)).1
  unfold formT
  rw [List.length_append]
  rw [fitL_len] at h3 h4 ⊢
  omega
theorem fitL_parse {V : Int} (h1 : 1 ≤ V) (h2 : V ≤ 12) {zss : List (List Int)} (hb : fitB zss = true) : parseB (formT V (fitL V zss)) = ⟨V, fitL V zss, 0, 0⟩ :=
  parse_form (fitL_ok h1 h2 hb) (by have := fitL_text h1 h2 hb; omega)
/-- A text as bytes of a string. -/
def str (l : List UInt8) : ByteArray := ⟨l.toArray⟩
theorem w8_str (l : List UInt8) : W8 (str l) = l := rfl
theorem str_size (l : List UInt8) : (str l).size = l.length := by simp [str, ByteArray.size]
theorem form_is {V : Int} {zss L : List (List Int)} {l : Nat} {s : ByteArray} (hb : fitB zss = true) (h1 : 1 ≤ V) (h2 : V ≤ 12) (hL : fitL V zss = L) (hs : str (formT V L) = s) (hl : zss.length = l) (a : Option Addr) (c : Nat) (w : World) (h : RowsR .i64 w a L) (he : Env w) :
    Calls Tryd.prog 13 #[.agg #[.int .i64 V, .slice a l c]] w fun e w' => e = .returned (.tuple #[.string s, .int .i64 0]) ∧ Below w.heap.size w w' := by
  subst hL hs hl
  obtain ⟨hl, hr⟩ := fitB_parts hb
  have ht := fitL_text h1 h2 hb
  exact format_is (zss := fitL V zss) (fitL_len V zss) (w8_str _).symm (fitL_check h1 h2 (Int.le_refl _) (by omega) hb) (by omega) a c w (by unfold maxLen; omega) (fitL_all hb) (fitL_i64 h1 h2) h he
theorem back_is {V : Int} {zss L : List (List Int)} {l : Nat} {s : ByteArray} (hb : fitB zss = true) (h1 : 1 ≤ V) (h2 : V ≤ 12) (hL : fitL V zss = L) (hs : str (formT V L) = s) (hl : zss.length = l) (w : World) (he : Env w) :
    Calls Tryd.prog 15 #[.string s] w fun e w' => ∃ a c, e = .returned (.tuple #[.agg #[.int .i64 V, .slice a l c], .int .i64 0, .int .i64 0]) ∧ RowsR .i64 w' a L ∧ Below w.heap.size w w' := by
  subst hL hs hl
  have ht := fitL_text h1 h2 hb
  exact parse_is (o := ⟨V, fitL V zss, 0, 0⟩) (by rw [w8_str]; exact fitL_parse h1 h2 hb) (fitL_len V zss) w (by rw [str_size]; omega) he
end Go.Proofs.YtkannkalbhmlcaaDoor
