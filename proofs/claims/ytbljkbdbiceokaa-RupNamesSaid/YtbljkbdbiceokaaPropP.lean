/-
  What follows, plain: uniqueness, how it is shown of a formula that is written out, models, more assumptions.
-/
import Derived.Test.YtbljkbdbiceokaaPropN
namespace Go.Proofs.Ytbljkbdbiceokaa

theorem lits_unique {n : Nat} {k k' : List Int} (h1 : k.length = n + 1) (h2 : ∀ v : Nat, k.getD v 0 = 0 ∨ (k.getD v 0).natAbs = v) (h1' : k'.length = n + 1) (h2' : ∀ v : Nat, k'.getD v 0 = 0 ∨ (k'.getD v 0).natAbs = v)
    (h : ∀ x, x ∈ litsOf k ↔ x ∈ litsOf k') : k = k' := by
  have mem : ∀ {l : List Int}, (∀ v : Nat, l.getD v 0 = 0 ∨ (l.getD v 0).natAbs = v) → ∀ x, x ∈ litsOf l ↔ x ≠ 0 ∧ l.getD x.natAbs 0 = x := by
    intro l hl x
    unfold litsOf
    rw [List.mem_filter]
    constructor
    · rintro ⟨g1, g2⟩
      have g0 : x ≠ 0 := by simpa using g2
      obtain ⟨v, hv⟩ := List.mem_iff_getElem?.1 g1
      have hg : l.getD v 0 = x := by rw [List.getD_eq_getElem?_getD, hv]; rfl
      refine ⟨g0, ?_⟩
      rcases hl v with g3 | g3
      · rw [hg] at g3; exact absurd g3 g0
      · rw [hg] at g3; rw [g3]; exact hg
    · rintro ⟨g0, g1⟩
      refine ⟨?_, by simpa using g0⟩
      rw [List.getD_eq_getElem?_getD] at g1
      cases hk : l[x.natAbs]? with
      | none => rw [hk] at g1; exact absurd g1.symm g0
      | some y => rw [hk] at g1; have : y = x := g1; subst this; exact List.mem_of_getElem? hk
  refine List.ext_getElem? fun v => ?_
  by_cases hv : v < n + 1
  · have e1 : k[v]? = some (k.getD v 0) := by rw [List.getD_eq_getElem?_getD, List.getElem?_eq_getElem (by omega)]; rfl
    have e2 : k'[v]? = some (k'.getD v 0) := by rw [List.getD_eq_getElem?_getD, List.getElem?_eq_getElem (by omega)]; rfl
    rw [e1, e2]
    congr 1
    generalize hx : k.getD v 0 = x
    generalize hy : k'.getD v 0 = y
    have a1 := h2 v
    have a2 := h2' v
    rw [hx] at a1
    rw [hy] at a2
    by_cases hx0 : x = 0
    · by_cases hy0 : y = 0
      · rw [hx0, hy0]
      · have hyv : y.natAbs = v := a2.resolve_left hy0
        have h3 := (h y).2 ((mem h2' y).2 ⟨hy0, by rw [hyv]; exact hy⟩)
        have h4 := ((mem h2 y).1 h3).2
        rw [hyv, hx] at h4; exact h4
    · have hxv : x.natAbs = v := a1.resolve_left hx0
      have h3 := (h x).1 ((mem h2 x).2 ⟨hx0, by rw [hxv]; exact hx⟩)
      have h4 := ((mem h2' x).1 h3).2
      rw [hxv, hy] at h4; exact h4.symm
  · rw [List.getElem?_eq_none (by omega), List.getElem?_eq_none (by omega)]

theorem follows_unique {n : Nat} {F : List (List Int)} {A u u' : List Int} (h : Follows n F A u) (h' : Follows n F A u') : u = u' := by
  obtain ⟨_, k, h1, _, h2, rfl, h3⟩ := h
  obtain ⟨_, k', h1', _, h2', rfl, h3'⟩ := h'
  rw [lits_unique h1 h2 h1' h2' fun x => (h3 x).trans (h3' x).symm]

/-- The literals are closed: what follows is among them. -/
theorem closed_der {F : List (List Int)} {A u : List Int} (h1 : ∀ a ∈ A, a ∈ u) (h2 : ∀ c ∈ F, ∀ x ∈ c, (∀ y ∈ c, y ≠ x → -y ∈ u) → x ∈ u) {x : Int} (h : Der F A x) : x ∈ u := by
  induction h with
  | assume h => exact h1 _ h
  | unit hc hx _ ih => exact h2 _ hc _ hx fun y hy hne => ih y hy hne
theorem follows_dec {n : Nat} {F : List (List Int)} {A u k : List Int} (h1 : ∀ a ∈ A, a ∈ u) (h2 : ∀ c ∈ F, ∀ x ∈ c, (∀ y ∈ c, y ≠ x → -y ∈ u) → x ∈ u) (h3 : ∀ x ∈ u, -x ∉ u) (h4 : [] ∉ F) (h5 : ∀ x ∈ u, Der F A x)
    (k1 : k.length = n + 1) (k2 : k.getD 0 0 = 0) (k3 : ∀ v, v < k.length → k.getD v 0 = 0 ∨ (k.getD v 0).natAbs = v) (k4 : u = litsOf k) : Follows n F A u := by
  refine ⟨?_, k, k1, k2, fun v => ?_, k4, fun x => ⟨h5 x, closed_der h1 h2⟩⟩
  · rintro (h | ⟨x, ha, hb⟩)
    · exact h4 h
    · exact h3 x (closed_der h1 h2 ha) (closed_der h1 h2 hb)
  · by_cases hv : v < k.length
    · exact k3 v hv
    · left; rw [List.getD_eq_getElem?_getD, List.getElem?_eq_none (by omega)]; rfl

theorem Der.mono {F F' : List (List Int)} {A A' : List Int} (hF : ∀ c ∈ F, c ∈ F') (hA : ∀ x ∈ A, x ∈ A') {x : Int} (h : Der F A x) : Der F' A' x := by
  induction h with
  | assume h => exact .assume (hA _ h)
  | unit hc hx _ ih => exact .unit (hF _ hc) hx ih
theorem Fails.mono {F F' : List (List Int)} {A A' : List Int} (hF : ∀ c ∈ F, c ∈ F') (hA : ∀ x ∈ A, x ∈ A') (h : Fails F A) : Fails F' A' :=
  h.imp (hF _) fun ⟨x, h1, h2⟩ => ⟨x, h1.mono hF hA, h2.mono hF hA⟩
/-- The same clauses as sets of literals, the same assumptions as a set. -/
theorem Der.same {F F' : List (List Int)} {A A' : List Int} (hF : ∀ c ∈ F, ∃ c' ∈ F', ∀ x, x ∈ c ↔ x ∈ c') (hA : ∀ x ∈ A, x ∈ A') {x : Int} (h : Der F A x) : Der F' A' x := by
  induction h with
  | assume h => exact .assume (hA _ h)
  | unit hc hx _ ih =>
    obtain ⟨c', hc', hs⟩ := hF _ hc
    exact .unit hc' ((hs _).1 hx) fun y hy hne => ih y ((hs y).2 hy) hne
theorem Fails.same {F F' : List (List Int)} {A A' : List Int} (hF : ∀ c ∈ F, ∃ c' ∈ F', ∀ x, x ∈ c ↔ x ∈ c') (hA : ∀ x ∈ A, x ∈ A') (h : Fails F A) : Fails F' A' := by
  rcases h with h | ⟨x, h1, h2⟩
  · obtain ⟨c', hc', hs⟩ := hF _ h
    left
    have : c' = [] := List.eq_nil_iff_forall_not_mem.2 fun x hx => by have := (hs x).2 hx; simp at this
    rw [← this]; exact hc'
  · exact .inr ⟨x, h1.same hF hA, h2.same hF hA⟩
/-- What followed, assumed. -/
theorem Der.again {F : List (List Int)} {A B : List Int} (hB : ∀ x ∈ B, Der F A x) {x : Int} (h : Der F B x) : Der F A x := by
  induction h with
  | assume h => exact hB _ h
  | unit hc hx _ ih => exact .unit hc hx ih
theorem follows_again {n : Nat} {F : List (List Int)} {A u : List Int} (h : Follows n F A u) : Follows n F u u := by
  obtain ⟨h0, k, h1, h2, h3, rfl, h4⟩ := h
  have hd : ∀ x, Der F (litsOf k) x ↔ Der F A x := fun x => ⟨fun h => h.again fun y hy => (h4 y).1 hy, fun h => .assume ((h4 x).2 h)⟩
  refine ⟨?_, k, h1, h2, h3, rfl, fun x => (h4 x).trans (hd x).symm⟩
  rintro (h | ⟨x, ha, hb⟩)
  · exact h0 (.inl h)
  · exact h0 (.inr ⟨x, (hd x).1 ha, (hd _).1 hb⟩)

/-! The closed example. -/
theorem three_der : ∀ x ∈ ([1, -2, 3] : List Int), Der threeL [1] x := by
  have d1 : Der threeL [1] 1 := .assume (by simp)
  have d3 : Der threeL [1] 3 := .unit (c := [-1, 3]) (by simp [threeL]) (by simp) fun y hy hne => by
    simp at hy; rcases hy with rfl | rfl
    · exact d1
    · exact absurd rfl hne
  have d2 : Der threeL [1] (-2) := .unit (c := [-2, -3]) (by simp [threeL]) (by simp) fun y hy hne => by
    simp at hy; rcases hy with rfl | rfl
    · exact absurd rfl hne
    · exact d3
  intro x hx
  simp at hx
  rcases hx with rfl | rfl | rfl
  · exact d1
  · exact d2
  · exact d3
theorem three_follows : Follows 3 threeL [1] [1, -2, 3] :=
  follows_dec (k := [0, 1, -2, 3]) (by decide) (by decide) (by decide) (by decide) three_der rfl rfl (by decide) (by decide)
end Go.Proofs.Ytbljkbdbiceokaa
