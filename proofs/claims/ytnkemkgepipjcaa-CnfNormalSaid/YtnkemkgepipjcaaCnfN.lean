/-
  CnfNormal: the plain part: a formula whose clauses were put in order, and those that always hold left out.
-/
import Derived.Test.YtnkemkgepipjcaaCnfF
import Derived.Test.YtnkemkgepipjcaaLitM
namespace Go.Proofs.Ytnkemkgepipjcaa
open Go.RowKit Go.Lib
open Go.RowKit (Below)

theorem normStep_len {acc r : List Int} {x : Int} (h : normStep acc x = some r) : r.length ≤ acc.length + 1 := by
  unfold normStep at h
  by_cases h0 : x = 0
  · rw [if_pos h0] at h; cases h; omega
  rw [if_neg h0] at h
  cases hl : acc.getLast? with
  | none => rw [hl] at h; cases h; simp
  | some y =>
    rw [hl] at h
    simp only at h
    by_cases h1 : x = y
    · rw [if_pos h1] at h; cases h; omega
    · rw [if_neg h1] at h
      by_cases h2 : au x = au y
      · rw [if_pos h2] at h; cases h
      · rw [if_neg h2] at h; cases h; simp
theorem fold_len : ∀ (S acc r : List Int), S.foldlM normStep acc = some r → r.length ≤ acc.length + S.length
  | [], acc, r, h => by
    rw [List.foldlM_nil] at h
    have : acc = r := Option.some.inj h
    subst this; simp
  | x :: S, acc, r, h => by
    rw [List.foldlM_cons] at h
    cases hs : normStep acc x with
    | none => rw [hs] at h; cases h
    | some b =>
      rw [hs] at h
      have h1 := fold_len S b r h
      have h2 := normStep_len hs
      rw [List.length_cons]; omega
theorem normB_len (zs : List Int) : (normB zs).1.length ≤ zs.length := by
  cases h : normFold (sortL zs) with
  | none => rw [normB_none h]; simp
  | some r =>
    rw [normB_some h]
    have := fold_len (sortL zs) [] r h
    rw [sortL_length] at this
    simpa using this

def keepN (z : List Int) : Option (List Int) := if (normB z).2 = true then none else some (normB z).1
def normL (L : List (List Int)) : List (List Int) := L.filterMap keepN
theorem normL_drop {L : List (List Int)} {k : Nat} {z : List Int} (hz : L[k]? = some z) (h : (normB z).2 = true) : normL (L.take (k + 1)) = normL (L.take k) := by
  unfold normL; rw [take_snoc _ _ _ hz, List.filterMap_append]; simp [keepN, h]
theorem normL_keep {L : List (List Int)} {k : Nat} {z : List Int} (hz : L[k]? = some z) (h : (normB z).2 = false) : normL (L.take (k + 1)) = normL (L.take k) ++ [(normB z).1] := by
  unfold normL; rw [take_snoc _ _ _ hz, List.filterMap_append]; simp [keepN, h]
theorem normL_le (L : List (List Int)) (k : Nat) : (normL (L.take k)).length ≤ k := by
  unfold normL; refine Nat.le_trans (List.length_filterMap_le _ _) ?_; exact List.length_take_le _ _
theorem normL_mem {L : List (List Int)} {r : List Int} : r ∈ normL L ↔ ∃ z ∈ L, (normB z).2 = false ∧ r = (normB z).1 := by
  unfold normL
  rw [List.mem_filterMap]
  constructor
  · rintro ⟨z, hz, h⟩
    unfold keepN at h
    cases h2 : (normB z).2
    · rw [h2] at h
      simp at h
      exact ⟨z, hz, h2, h.symm⟩
    · rw [h2] at h; simp at h
  · rintro ⟨z, hz, h1, rfl⟩
    exact ⟨z, hz, by unfold keepN; rw [h1]; simp⟩

/-- A literal of a variable of the model, or its negative, holds. -/
theorem one_holds {m : List Bool} {x : Int} (h0 : x ≠ 0) (h1 : -(m.length : Int) ≤ x) (h2 : x ≤ m.length) (hm : m.length ≤ 4096) : holdsL m x = true ∨ holdsL m (-x) = true := by
  obtain ⟨n, hn⟩ : ∃ n : Nat, au x = (n : Int) + 1 := by
    rw [au_abs x (by omega) (by omega)]
    split
    · exact ⟨(-x - 1).toNat, by omega⟩
    · exact ⟨(x - 1).toNat, by omega⟩
  have hn' : au (-x) = (n : Int) + 1 := by
    rw [← hn, au_abs x (by omega) (by omega), au_abs (-x) (by omega) (by omega)]
    split <;> split <;> omega
  have hl : n < m.length := by
    rw [au_abs x (by omega) (by omega)] at hn
    split at hn <;> omega
  have hy := List.getElem?_eq_getElem hl
  have a1 := holdsL_at m x n _ hn hy
  have a2 := holdsL_at m (-x) n _ hn' hy
  rw [a1, a2]
  by_cases hp : 0 < x
  · rw [decide_eq_true hp, decide_eq_false (show ¬ 0 < -x by omega)]
    cases m[n] <;> simp
  · rw [decide_eq_false hp, decide_eq_true (show 0 < -x by omega)]
    cases m[n] <;> simp
theorem clash_holds {m : List Bool} {z : List Int} (hz : ∀ x ∈ z, -(m.length : Int) ≤ x ∧ x ≤ m.length ∧ x ≠ 0) (hm : m.length ≤ 4096) (h : Clash z) : z.any (holdsL m) = true := by
  obtain ⟨x, y, hx, hy, _, _, h3, h4⟩ := h
  obtain ⟨a1, a2, a3⟩ := hz x hx
  obtain ⟨b1, b2, b3⟩ := hz y hy
  have hxy : y = -x := by
    rw [au_abs x (by omega) (by omega), au_abs y (by omega) (by omega)] at h4
    split at h4 <;> split at h4 <;> omega
  subst hxy
  rw [List.any_eq_true]
  rcases one_holds a3 a1 a2 hm with h | h
  · exact ⟨x, hx, h⟩
  · exact ⟨-x, hy, h⟩
theorem norm_means {m : List Bool} {z : List Int} (hz : ∀ x ∈ z, -(m.length : Int) ≤ x ∧ x ≤ m.length ∧ x ≠ 0) (hm : m.length ≤ 4096) : z.any (holdsL m) = ((normB z).2 || (normB z).1.any (holdsL m)) := by
  have hs := normB_spec z
  cases h : (normB z).2
  · rw [Bool.false_or, Bool.eq_iff_iff, List.any_eq_true, List.any_eq_true]
    have hr := (hs.no h).2.2
    constructor
    · rintro ⟨x, hx, h⟩; exact ⟨x, (hr x).2 ⟨hx, (hz x hx).2.2⟩, h⟩
    · rintro ⟨x, hx, h⟩; exact ⟨x, ((hr x).1 hx).1, h⟩
  · rw [clash_holds hz hm (hs.yes h).2]; rfl
theorem firstI_iff (m : List Bool) (L : List (List Int)) : firstI m L = -1 ↔ ∀ z ∈ L, z.any (holdsL m) = true := by
  rcases firstI_spec m L with ⟨h, h1⟩ | ⟨t, h, ht, _, h2⟩
  · rw [h]
    refine ⟨fun _ z hz => ?_, fun _ => rfl⟩
    obtain ⟨j, hj⟩ := List.mem_iff_getElem?.1 hz
    exact h1 j z hj
  · rw [h]
    refine ⟨fun e => by omega, fun e => ?_⟩
    have a1 := h2 _ (List.getElem?_eq_getElem ht)
    rw [e _ (List.getElem_mem ht)] at a1
    cases a1
theorem normL_first {m : List Bool} {L : List (List Int)} (hL : ∀ z ∈ L, ∀ x ∈ z, -(m.length : Int) ≤ x ∧ x ≤ m.length ∧ x ≠ 0) (hm : m.length ≤ 4096) : firstI m L = -1 ↔ firstI m (normL L) = -1 := by
  rw [firstI_iff, firstI_iff]
  constructor
  · intro h r hr
    obtain ⟨z, hz, h1, rfl⟩ := normL_mem.1 hr
    have := h z hz
    rw [norm_means (hL z hz) hm, h1, Bool.false_or] at this
    exact this
  · intro h z hz
    rw [norm_means (hL z hz) hm]
    cases h1 : (normB z).2
    · rw [Bool.false_or]; exact h _ (normL_mem.2 ⟨z, hz, h1, rfl⟩)
    · rfl
theorem fitL_range {V : Int} (h1 : 1 ≤ V) {zss : List (List Int)} : ∀ z ∈ fitL V zss, ∀ x ∈ z, -V ≤ x ∧ x ≤ V ∧ x ≠ 0 := by
  intro z hz
  obtain ⟨y, _, rfl⟩ := List.mem_map.1 hz
  exact fitZ_range V h1 y
theorem normL_check {V : Int} (h1 : 1 ≤ V) (h2 : V ≤ 12) {zss : List (List Int)} (hb : fitB zss = true) : checkF V (normL (fitL V zss)) = 0 := by
  obtain ⟨hl, hr⟩ := fitB_parts hb
  have hle : (normL (fitL V zss)).length ≤ zss.length := by unfold normL; refine Nat.le_trans (List.length_filterMap_le _ _) ?_; rw [fitL_len]; omega
  rw [checkF_in (by omega) (by omega)]
  refine errs_zero fun r hr0 => ?_
  obtain ⟨z, hz, h3, rfl⟩ := normL_mem.1 hr0
  obtain ⟨y, hy, rfl⟩ := List.mem_map.1 hz
  have hs := (normB_spec (fitZ V y)).no h3
  refine checkI_ok _ _ (by omega) (by omega) (by have := normB_len (fitZ V y); have := fitZ_le V y; have := hr y hy; omega) ?_
  rw [List.any_eq_false]
  intro x hx
  obtain ⟨a1, a2, a3⟩ := fitZ_range V h1 y x ((hs.2.2 x).1 hx).1
  have ha := au_abs x (by omega) (by omega)
  unfold badB
  simp only [Bool.or_eq_true, beq_iff_eq, decide_eq_true_eq, not_or]
  refine ⟨a3, ?_⟩
  rw [ha]; split <;> omega
theorem normL_all {V : Int} {zss : List (List Int)} (hb : fitB zss = true) : AllLen (normL (fitL V zss)) := by
  intro r hr
  obtain ⟨z, hz, _, rfl⟩ := normL_mem.1 hr
  obtain ⟨y, hy, rfl⟩ := List.mem_map.1 hz
  have h1 := fitZ_le V y
  have h2 := (fitB_parts hb).2 y hy
  have h3 := normB_len (fitZ V y)
  unfold maxLen; omega

theorem norm_new_is {zs r : List Int} {is : Bool} {n m : Nat} (hn : zs.length = n) (hm : r.length = m) (hr : normB zs = (r, is)) (c : Option Addr) (cc : Nat) (w : World) (hb : n * 8 ≤ 140737488351232) (h : IntsR w c zs) :
    Calls Try.prog 25 #[.slice c n cc] w fun e w' => ∃ a c2, e = .returned (.tuple #[.slice a m c2, .bool is]) ∧ IntsR w' a r ∧ (∀ p, a = some p → w.heap.size ≤ p.block ∧ p.block < w'.heap.size) ∧ Below w.heap.size w w' := by
  have := norm_new c cc zs w (by omega) h
  rw [hr, hn] at this
  subst hm
  exact this
end Go.Proofs.Ytnkemkgepipjcaa
