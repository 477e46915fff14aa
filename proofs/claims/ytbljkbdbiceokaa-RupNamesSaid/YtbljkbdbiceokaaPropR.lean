/-
  What is returned, in order; when a clause is done with; what an assumption by small numbers is.
-/
import Derived.Test.YtbljkbdbiceokaaPropQ
namespace Go.Proofs.Ytbljkbdbiceokaa
open Go.RowKit Go.Lib
open Go.RowKit (Below)

theorem lits_order : ∀ {l : List Int} {s : Nat}, (∀ j : Nat, l.getD j 0 = 0 ∨ (l.getD j 0).natAbs = s + j) → (litsOf l).Pairwise (fun x y => x.natAbs < y.natAbs) ∧ ∀ x ∈ litsOf l, s ≤ x.natAbs ∧ x.natAbs < s + l.length ∧ x ≠ 0
  | [], _, _ => by simp [litsOf]
  | z :: l, s, h => by
    have h1 := lits_order (l := l) (s := s + 1) fun j => by
      have := h (j + 1)
      simpa [Nat.add_assoc, Nat.add_comm 1 j] using this
    have h0 := h 0
    simp at h0
    by_cases hz : z = 0
    · have e : litsOf (z :: l) = litsOf l := by unfold litsOf; simp [hz]
      rw [e]
      exact ⟨h1.1, fun x hx => by have := h1.2 x hx; simp; omega⟩
    · have e : litsOf (z :: l) = z :: litsOf l := by unfold litsOf; simp [hz]
      have hzs : z.natAbs = s := h0.resolve_left hz
      rw [e]
      refine ⟨List.pairwise_cons.2 ⟨fun x hx => by have := (h1.2 x hx).1; omega, h1.1⟩, fun x hx => ?_⟩
      rcases List.mem_cons.1 hx with rfl | hx
      · simp; omega
      · have := h1.2 x hx; simp; omega
theorem follows_order {n : Nat} {F : List (List Int)} {A u : List Int} (h : Follows n F A u) : u.Pairwise (fun x y => x.natAbs < y.natAbs) ∧ (∀ x ∈ u, 1 ≤ x.natAbs ∧ x.natAbs ≤ n ∧ x ≠ 0) ∧ u.length ≤ n := by
  obtain ⟨_, k, h1, h2, h3, rfl, _⟩ := h
  have ho := lits_order (l := k) (s := 0) fun j => by simpa using h3 j
  refine ⟨ho.1, fun x hx => ?_, ?_⟩
  · have := ho.2 x hx; omega
  · cases k with
    | nil => simp at h1
    | cons z l =>
      have hz : z = 0 := by simpa using h2
      have e : litsOf (z :: l) = litsOf l := by unfold litsOf; simp [hz]
      rw [e]
      have := litsOf_le l
      simp at h1; omega
theorem follows_step {n : Nat} {F : List (List Int)} {A u : List Int} (h : Follows n F A u) {i : Nat} {x y : Int} (hy : u[i]? = some y) (hx : u[i + 1]? = some x) : y.natAbs < x.natAbs := by
  have h1 := (follows_order h).1
  obtain ⟨h2, rfl⟩ := List.getElem?_eq_some_iff.1 hx
  obtain ⟨h3, rfl⟩ := List.getElem?_eq_some_iff.1 hy
  exact List.pairwise_iff_getElem.1 h1 i (i + 1) h3 h2 (by omega)
theorem follows_neg {n : Nat} {F : List (List Int)} {A u : List Int} (h : Follows n F A u) {x : Int} (hx : x ∈ u) : -x ∉ u := fun hn => by
  obtain ⟨h0, k, _, _, _, rfl, h4⟩ := h
  exact h0 (.inr ⟨x, (h4 x).1 hx, (h4 _).1 hn⟩)
theorem follows_has {n : Nat} {F : List (List Int)} {A u : List Int} (h : Follows n F A u) {x : Int} (hx : x ∈ A) : x ∈ u := by
  obtain ⟨_, k, _, _, _, rfl, h4⟩ := h
  exact (h4 x).2 (.assume hx)

/-- The literals of a clause that are not false, each once. -/
def seenF (u : List Int) (acc : List Int) (x : Int) : List Int := if decide (-x ∈ u) = false ∧ decide (x ∈ acc) = false then acc ++ [x] else acc
def seenL (u : List Int) (c : List Int) : List Int := c.foldl (seenF u) []
def holdsL' (u : List Int) (c : List Int) : Bool := c.any fun x => decide (x ∈ u)
theorem seenL_snoc (u c : List Int) (x : Int) : seenL u (c ++ [x]) = seenF u (seenL u c) x := by unfold seenL; rw [List.foldl_append]; rfl
theorem holdsL'_snoc (u c : List Int) (x : Int) : holdsL' u (c ++ [x]) = (holdsL' u c || decide (x ∈ u)) := by unfold holdsL'; rw [List.any_append]; simp
theorem seenL_le (u c : List Int) : (seenL u c).length ≤ c.length := by
  have : ∀ (c acc : List Int), (c.foldl (seenF u) acc).length ≤ acc.length + c.length := by
    intro c
    induction c with
    | nil => intro acc; simp
    | cons x c ih =>
      intro acc
      have h1 := ih (seenF u acc x)
      have h2 : (seenF u acc x).length ≤ acc.length + 1 := by unfold seenF; split <;> simp
      simp only [List.foldl_cons, List.length_cons]; omega
  simpa [seenL] using this c []
theorem mem_seenL (u c : List Int) {x : Int} (hx : x ∈ c) (hn : -x ∉ u) : x ∈ seenL u c := by
  have keep : ∀ (c acc : List Int), x ∈ acc → x ∈ c.foldl (seenF u) acc := by
    intro c
    induction c with
    | nil => intro acc h; exact h
    | cons y c ih =>
      intro acc h
      refine ih _ ?_
      unfold seenF; split
      · exact List.mem_append_left _ h
      · exact h
  have : ∀ (c acc : List Int), x ∈ c → x ∈ c.foldl (seenF u) acc := by
    intro c
    induction c with
    | nil => intro acc h; simp at h
    | cons y c ih =>
      intro acc h
      rcases List.mem_cons.1 h with rfl | h
      · refine keep c _ ?_
        unfold seenF
        split
        · simp
        · rename_i h2
          by_cases hm : x ∈ acc
          · exact hm
          · exact absurd ⟨decide_eq_false hn, decide_eq_false hm⟩ h2
      · exact ih _ h
  exact this c [] hx
/-- A clause is done with: it holds, or two of its literals are not false. -/
theorem follows_done {n : Nat} {F : List (List Int)} {A u : List Int} (h : Follows n F A u) {c : List Int} (hc : c ∈ F) (hh : holdsL' u c = false) : 2 ≤ (seenL u c).length := by
  have hnot : ∀ x ∈ c, x ∉ u := fun x hx hu => by
    unfold holdsL' at hh
    rw [List.any_eq_false] at hh
    exact hh x hx (decide_eq_true hu)
  have hneg := fun x (hx : x ∈ u) => follows_neg h hx
  obtain ⟨h0, k, _, _, _, rfl, h4⟩ := h
  have unit : ∀ x ∈ c, (∀ y ∈ c, y ≠ x → -y ∈ litsOf k) → False := fun x hx hy => hnot x hx ((h4 x).2 (.unit hc hx fun y hyc hne => (h4 _).1 (hy y hyc hne)))
  cases c with
  | nil => exact absurd (.inl hc) h0
  | cons z l =>
    rcases Nat.lt_or_ge (seenL (litsOf k) (z :: l)).length 2 with h2 | h2
    · exfalso
      match hs : seenL (litsOf k) (z :: l), h2 with
      | [], _ =>
        refine unit z List.mem_cons_self fun y hy _ => Decidable.byContradiction fun hn => ?_
        have := mem_seenL _ _ hy hn
        rw [hs] at this; simp at this
      | [y], _ =>
        by_cases hyc : y ∈ z :: l
        · refine unit y hyc fun x hx hne => Decidable.byContradiction fun hn => ?_
          have := mem_seenL _ _ hx hn
          rw [hs] at this; simp at this; exact hne this
        · refine unit z List.mem_cons_self fun x hx _ => Decidable.byContradiction fun hn => ?_
          have := mem_seenL _ _ hx hn
          rw [hs] at this; simp at this; exact hyc (this ▸ hx)
    · exact h2

/-- A formula of at most 12 variables and what is assumed with it are valid. -/
theorem fit_checkP {V : Int} (h1 : 1 ≤ V) (h2 : V ≤ 12) {zss : List (List Int)} (hb : fitB zss = true) {xs : List Int} (hx : ∀ x ∈ xs, -V ≤ x ∧ x ≤ V ∧ x ≠ 0) : checkP V (fitL V zss) xs = 0 := by
  unfold checkP
  rw [fitL_check h1 h2 (Int.le_refl V) (by omega) hb, if_neg (by simp)]
  have : xs.any (badB V) = false := by
    rw [List.any_eq_false]
    intro x hxx
    obtain ⟨g1, g2, g3⟩ := hx x hxx
    have : badB V x = false := by
      unfold badB
      rw [Bool.or_eq_false_iff, beq_eq_false_iff_ne, decide_eq_false_iff_not, au_abs x (by omega) (by omega)]
      refine ⟨g3, ?_⟩
      split <;> omega
    rw [this]; simp
  rw [this]; rfl
theorem fit_rng {V : Int} (h1 : 1 ≤ V) (h2 : V ≤ 12) (zss : List (List Int)) : ∀ z ∈ fitL V zss, ∀ x ∈ z, Rng x := by
  intro z hz x hx
  unfold fitL at hz
  obtain ⟨y, _, rfl⟩ := List.mem_map.1 hz
  have := fitZ_range V h1 y x hx
  constructor <;> omega
end Go.Proofs.Ytbljkbdbiceokaa
