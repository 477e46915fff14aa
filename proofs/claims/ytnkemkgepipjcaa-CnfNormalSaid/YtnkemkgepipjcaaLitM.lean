/-
  What Norm returns, said without sorting: each literal once, in the order, all of them and no others; or none, where a literal and its negative are there.
-/
import Derived.Test.YtnkemkgepipjcaaLitK
namespace Go.Proofs.Ytnkemkgepipjcaa

def Strict (r : List Int) : Prop := r.Pairwise (fun x y => lessB x y = true)
def Clash (zs : List Int) : Prop := ∃ x y, x ∈ zs ∧ y ∈ zs ∧ x ≠ 0 ∧ y ≠ 0 ∧ x ≠ y ∧ au x = au y
structure NormSpec (zs r : List Int) (is : Bool) : Prop where
  yes : is = true → r = [] ∧ Clash zs
  no : is = false → ¬ Clash zs ∧ Strict r ∧ ∀ x, x ∈ r ↔ x ∈ zs ∧ x ≠ 0

theorem Strict.nodup {r : List Int} (h : Strict r) : r.Nodup := by
  refine List.Pairwise.imp ?_ h
  intro a b hab e
  subst e
  rw [lessB_irrefl] at hab; cases hab
theorem Strict.unique {r s : List Int} (hr : Strict r) (hs : Strict s) (h : ∀ x, x ∈ r ↔ x ∈ s) : r = s := by
  refine List.Perm.eq_of_pairwise (le := fun x y => lessB x y = true) ?_ hr hs ((List.perm_ext_iff_of_nodup hr.nodup hs.nodup).2 h)
  intro a b _ _ h1 h2
  exact absurd h2 (lessB_asymm _ _ h1)
theorem NormSpec.unique {zs r s : List Int} {i j : Bool} (h : NormSpec zs r i) (k : NormSpec zs s j) : r = s ∧ i = j := by
  cases i <;> cases j
  · exact ⟨(h.no rfl).2.1.unique (k.no rfl).2.1 (fun x => ((h.no rfl).2.2 x).trans ((k.no rfl).2.2 x).symm), rfl⟩
  · exact absurd (k.yes rfl).2 (h.no rfl).1
  · exact absurd (h.yes rfl).2 (k.no rfl).1
  · exact ⟨by rw [(h.yes rfl).1, (k.yes rfl).1], rfl⟩

/-- The fold over a sorted list, as far as it has come. -/
structure FoldAt (S acc : List Int) (k : Nat) : Prop where
  strict : Strict acc
  apart : ∀ x y, x ∈ acc → y ∈ acc → au x = au y → x = y
  mem : ∀ x, x ∈ acc ↔ x ∈ S.take k ∧ x ≠ 0

theorem fold_spec (S : List Int) (hS : S.Pairwise (fun x y => (!lessB y x) = true)) : ∀ k, k ≤ S.length → (∃ acc, normFold (S.take k) = some acc ∧ FoldAt S acc k) ∨ (normFold S = none ∧ Clash S) := by
  intro k
  induction k with
  | zero =>
    intro _
    exact .inl ⟨[], rfl, ⟨List.Pairwise.nil, by simp, by simp⟩⟩
  | succ k ih =>
    intro hk
    rcases ih (by omega) with ⟨acc, hf, hA⟩ | h
    · have hx : S[k]? = some S[k] := by simp
      have hsnoc := take_snoc S k _ hx
      -- all that was taken is at most the next one
      have hle : ∀ y ∈ S.take k, lessB S[k] y = false := by
        intro y hy
        obtain ⟨j, hj, rfl⟩ := List.mem_iff_getElem.1 hy
        have hjk : j < k := by simp at hj; omega
        have := List.pairwise_iff_getElem.1 hS j k (by simp at hj; omega) (by omega) hjk
        simpa using this
      have hacc : ∀ y ∈ acc, y = S[k] ∨ lessB y S[k] = true := by
        intro y hy
        have h1 := hle y ((hA.mem y).1 hy).1
        by_cases h2 : lessB y S[k] = true
        · exact .inr h2
        · exact .inl (lessB_total y S[k] h2 (by simp [h1]))
      by_cases hz : S[k] = 0
      · refine .inl ⟨acc, normFold_step hf hx (by rw [hz]; exact normStep_zero _), ⟨hA.strict, hA.apart, fun x => ?_⟩⟩
        rw [hsnoc, hA.mem, List.mem_append, List.mem_singleton]
        constructor
        · rintro ⟨h1, h2⟩; exact ⟨.inl h1, h2⟩
        · rintro ⟨h1 | h1, h2⟩
          · exact ⟨h1, h2⟩
          · exact absurd (h1.trans hz) h2
      by_cases hin : S[k] ∈ acc
      · -- it is the last one
        have hlast : acc.getLast? = some S[k] := by
          obtain ⟨l, y, rfl⟩ : ∃ l y, acc = l ++ [y] := by
            rcases List.eq_nil_or_concat acc with h | ⟨l, y, h⟩
            · rw [h] at hin; simp at hin
            · exact ⟨l, y, by simpa using h⟩
          have hy := hacc y (by simp)
          rcases hy with hy | hy
          · rw [List.getLast?_append]; simp [hy]
          · have hl : S[k] ∈ l := by
              rcases List.mem_append.1 hin with h | h
              · exact h
              · simp at h; rw [← h] at hy; rw [lessB_irrefl] at hy; cases hy
            have := (List.pairwise_append.1 hA.strict).2.2 _ hl y (by simp)
            exact absurd this (lessB_asymm _ _ hy)
        refine .inl ⟨acc, normFold_step hf hx (normStep_same hz hlast), ⟨hA.strict, hA.apart, fun x => ?_⟩⟩
        rw [hsnoc, hA.mem, List.mem_append, List.mem_singleton]
        constructor
        · rintro ⟨h1, h2⟩; exact ⟨.inl h1, h2⟩
        · rintro ⟨h1 | h1, h2⟩
          · exact ⟨h1, h2⟩
          · subst h1; exact ⟨((hA.mem _).1 hin).1, h2⟩
      have hlt : ∀ y ∈ acc, lessB y S[k] = true := by
        intro y hy
        rcases hacc y hy with h | h
        · exact absurd (h ▸ hy) hin
        · exact h
      by_cases hc : ∃ y ∈ acc, au y = au S[k]
      · obtain ⟨y, hy, he⟩ := hc
        right
        -- the last one has the same variable
        obtain ⟨l, z, rfl⟩ : ∃ l z, acc = l ++ [z] := by
          rcases List.eq_nil_or_concat acc with h | ⟨l, z, h⟩
          · rw [h] at hy; simp at hy
          · exact ⟨l, z, by simpa using h⟩
        have hz1 := hlt z (by simp)
        have hyz : au z = au S[k] := by
          rcases List.mem_append.1 hy with h | h
          · have h2 := (List.pairwise_append.1 hA.strict).2.2 y h z (by simp)
            rw [lessB_iff] at h2 hz1
            omega
          · simp at h; rw [← h]; exact he
        have hne : S[k] ≠ z := fun e => by rw [e, lessB_irrefl] at hz1; cases hz1
        have hm := (hA.mem z).1 (by simp)
        exact ⟨normFold_stop hf hx (normStep_twice hz (by rw [List.getLast?_append]; simp) hne hyz.symm), S[k], z, by simp, List.mem_of_mem_take hm.1, hz, hm.2, hne, hyz.symm⟩
      · left
        have hno : ∀ y ∈ acc, au y ≠ au S[k] := fun y hy he => hc ⟨y, hy, he⟩
        have hstep : normStep acc S[k] = some (acc ++ [S[k]]) := by
          rcases List.eq_nil_or_concat acc with h | ⟨l, z, h⟩
          · subst h; exact normStep_first hz
          · have h' : acc = l ++ [z] := by simpa using h
            subst h'
            have hz1 := hlt z (by simp)
            have hne : S[k] ≠ z := fun e => by rw [e, lessB_irrefl] at hz1; cases hz1
            exact normStep_next hz (by rw [List.getLast?_append]; simp) hne (fun e => hno z (by simp) e.symm)
        refine ⟨acc ++ [S[k]], normFold_step hf hx hstep, ⟨?_, ?_, fun x => ?_⟩⟩
        · exact List.pairwise_append.2 ⟨hA.strict, by simp, fun a ha b hb => by simp at hb; subst hb; exact hlt a ha⟩
        · intro x y hx hy he
          rcases List.mem_append.1 hx with h1 | h1 <;> rcases List.mem_append.1 hy with h2 | h2
          · exact hA.apart x y h1 h2 he
          · simp at h2; subst h2; exact absurd he (hno x h1)
          · simp at h1; subst h1; exact absurd he.symm (hno y h2)
          · simp at h1 h2; rw [h1, h2]
        · rw [hsnoc, List.mem_append, List.mem_append, List.mem_singleton, hA.mem]
          constructor
          · rintro (⟨h1, h2⟩ | h1)
            · exact ⟨.inl h1, h2⟩
            · exact ⟨.inr h1, by rw [h1]; exact hz⟩
          · rintro ⟨h1 | h1, h2⟩
            · exact .inl ⟨h1, h2⟩
            · exact .inr h1
    · exact .inr h

theorem normB_spec (zs : List Int) : NormSpec zs (normB zs).1 (normB zs).2 := by
  have hp := sortL_perm zs
  rcases fold_spec (sortL zs) (sortL_pairwise zs) (sortL zs).length (Nat.le_refl _) with ⟨acc, hf, hA⟩ | ⟨hf, x, y, hx, hy, h1, h2, h3⟩
  · rw [List.take_length] at hf
    rw [normB_some hf]
    refine ⟨by simp, fun _ => ⟨?_, hA.strict, fun x => ?_⟩⟩
    · rintro ⟨x, y, hx, hy, h1, hy0, h2, h3⟩
      exact h2 (hA.apart x y ((hA.mem x).2 ⟨by rw [List.take_length]; exact hp.mem_iff.2 hx, h1⟩) ((hA.mem y).2 ⟨by rw [List.take_length]; exact hp.mem_iff.2 hy, hy0⟩) h3)
    · rw [hA.mem, List.take_length, hp.mem_iff]
  · rw [normB_none hf]
    exact ⟨fun _ => ⟨rfl, x, y, hp.mem_iff.1 hx, hp.mem_iff.1 hy, h1, h2, h3⟩, by simp⟩
end Go.Proofs.Ytnkemkgepipjcaa
