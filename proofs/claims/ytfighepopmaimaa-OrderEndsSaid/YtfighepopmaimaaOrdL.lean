/-
  Several things of the call's own beside each other, each with its blocks; same.
-/
import Derived.Test.YtfighepopmaimaaOrdK
namespace Go.Proofs.Ytfighepopmaimaa
open Go.RowKit Go.Lib
open Go.RowKit (Below)

/-- What is said of some blocks. -/
abbrev Ast := List Nat → World → Prop
/-- It depends on these blocks alone. -/
structure Loc (P : Ast) : Prop where
  stays : ∀ fs w w', P fs w → (∀ g, g ∈ fs → w'.heap[g]? = w.heap[g]?) → P fs w'
  lt : ∀ fs w, P fs w → ∀ g, g ∈ fs → g < w.heap.size
/-- All these, apart from each other, in blocks that the call made; nothing that was there before has changed. -/
def St (W : World) (ps : List Ast) (w : World) : Prop :=
  ∃ fss : List (List Nat), fss.length = ps.length ∧ (∀ (i : Nat) (P : Ast) (f : List Nat), ps[i]? = some P → fss[i]? = some f → P f w ∧ Loc P ∧ ∀ g, g ∈ f → W.heap.size ≤ g) ∧
    (∀ (i j : Nat) (f f' : List Nat) (g : Nat), i ≠ j → fss[i]? = some f → fss[j]? = some f' → g ∈ f → g ∉ f') ∧ Below W.heap.size W w
/-- One of them becomes another one. -/
def StepA (P : Ast) (fs : List Nat) (w w' : World) : Prop := ∃ fs', P fs' w' ∧ Touch fs w w' ∧ ∀ g, g ∈ fs' → g ∈ fs ∨ w.heap.size ≤ g
section
variable {W w w' : World} {ps : List Ast}
theorem St.nil (w : World) : St w [] w := ⟨[], rfl, (fun i P f h => by simp at h), (fun i j f f' g _ h => by simp at h), Below.refl _ _⟩
theorem St.bel (h : St W ps w) : Below W.heap.size W w := by obtain ⟨_, _, _, _, hb⟩ := h; exact hb
theorem St.below (h : St W ps w) (hb : Below w.heap.size w w') : St W ps w' := by
  obtain ⟨fss, h1, h2, h3, h4⟩ := h
  refine ⟨fss, h1, fun i P f hP hf => ?_, h3, h4.trans (hb.mono h4.size)⟩
  obtain ⟨a, b, c⟩ := h2 i P f hP hf
  exact ⟨b.stays f w w' a fun g hg => hb.block g (b.lt f w a g hg), b, c⟩
theorem St.quiet (h : St W ps w) (hq : QuietTo w w') : St W ps w' := h.below (quietBelow hq _)
/-- The blocks of the i-th. -/
theorem St.get (h : St W ps w) {i : Nat} {P : Ast} (hi : ps[i]? = some P) : ∃ fs, P fs w := by
  obtain ⟨fss, h1, h2, _⟩ := h
  have hlt : i < fss.length := by rw [h1]; exact (List.getElem?_eq_some_iff.1 hi).1
  exact ⟨_, (h2 i P _ hi (List.getElem?_eq_getElem hlt)).1⟩
/-- A step of one of them. -/
theorem St.step (h : St W ps w) {i : Nat} {P P' : Ast} (hi : ps[i]? = some P) (hl : Loc P') : ∃ fs, P fs w ∧ ∀ w', StepA P' fs w w' → St W (ps.set i P') w' := by
  obtain ⟨fss, h1, h2, h3, h4⟩ := h
  have hlt : i < fss.length := by rw [h1]; exact (List.getElem?_eq_some_iff.1 hi).1
  have hpi : i < ps.length := by omega
  obtain ⟨fs, hfs⟩ : ∃ fs, fss[i]? = some fs := ⟨_, List.getElem?_eq_getElem hlt⟩
  obtain ⟨a0, b0, c0⟩ := h2 i P fs hi hfs
  refine ⟨fs, a0, ?_⟩
  rintro w' ⟨fs', g1, g2, g3⟩
  refine ⟨fss.set i fs', by simp [h1], fun j R f hR hf => ?_, fun j k f f' g hjk hf hf' hg => ?_, h4.trans (g2.below c0 h4.size)⟩
  · by_cases hj : j = i
    · subst hj
      rw [List.getElem?_set_self hpi] at hR
      rw [List.getElem?_set_self hlt] at hf
      cases hR; cases hf
      refine ⟨g1, hl, fun g hg => ?_⟩
      rcases g3 g hg with h5 | h5
      · exact c0 g h5
      · have := h4.size; omega
    · rw [List.getElem?_set_ne (Ne.symm hj)] at hR hf
      obtain ⟨a, b, c⟩ := h2 j R f hR hf
      exact ⟨b.stays f w w' a fun g hg => g2.block g (b.lt f w a g hg) (h3 j i f fs g hj hf hfs hg), b, c⟩
  · by_cases hj : j = i
    · subst hj
      rw [List.getElem?_set_self hlt] at hf
      rw [List.getElem?_set_ne hjk] at hf'
      cases hf
      intro hm
      have hk2 : k < ps.length := by rw [← h1]; exact (List.getElem?_eq_some_iff.1 hf').1
      obtain ⟨a, b, c⟩ := h2 k _ f' (List.getElem?_eq_getElem hk2) hf'
      rcases g3 g hg with h5 | h5
      · exact h3 j k fs f' g hjk hfs hf' h5 hm
      · have := b.lt f' w a g hm; omega
    · rw [List.getElem?_set_ne (Ne.symm hj)] at hf
      by_cases hk : k = i
      · subst hk
        rw [List.getElem?_set_self hlt] at hf'
        cases hf'
        intro hm
        have hj2 : j < ps.length := by rw [← h1]; exact (List.getElem?_eq_some_iff.1 hf).1
        obtain ⟨a, b, c⟩ := h2 j _ f (List.getElem?_eq_getElem hj2) hf
        rcases g3 g hm with h5 | h5
        · exact h3 j k f fs g hj hf hfs hg h5
        · have := b.lt f w a g hg; omega
      · rw [List.getElem?_set_ne (Ne.symm hk)] at hf'
        exact h3 j k f f' g hjk hf hf' hg
/-- One more, in new blocks. -/
theorem St.more (h : St W ps w) {P : Ast} {fs : List Nat} (hP : P fs w') (hl : Loc P) (hb : Below w.heap.size w w') (hn : ∀ g, g ∈ fs → w.heap.size ≤ g) : St W (ps ++ [P]) w' := by
  have h9 := h.below hb
  obtain ⟨fss, h1, h2, h3, h4⟩ := h
  have hold : ∀ i P f, ps[i]? = some P → fss[i]? = some f → ∀ g, g ∈ f → g < w.heap.size := fun i P f hP hf => by obtain ⟨a, b, _⟩ := h2 i P f hP hf; exact b.lt f w a
  refine ⟨fss ++ [fs], by simp [h1], fun i R f hR hf => ?_, fun i j f f' g hij hf hf' hg => ?_, h9.bel⟩
  · by_cases hi : i < ps.length
    · rw [List.getElem?_append_left hi] at hR
      rw [List.getElem?_append_left (by omega)] at hf
      obtain ⟨a, b, c⟩ := h2 i R f hR hf
      exact ⟨b.stays f w w' a fun g hg => hb.block g (b.lt f w a g hg), b, c⟩
    · have hi2 : i = ps.length := by have := (List.getElem?_eq_some_iff.1 hR).1; simp at this; omega
      subst hi2
      rw [List.getElem?_append_right (Nat.le_refl _), Nat.sub_self] at hR
      rw [List.getElem?_append_right (by omega), h1, Nat.sub_self] at hf
      cases hR; cases hf
      exact ⟨hP, hl, fun g hg => by have := hn g hg; have := h4.size; omega⟩
  · by_cases hi : i < fss.length <;> by_cases hj : j < fss.length
    · rw [List.getElem?_append_left hi] at hf
      rw [List.getElem?_append_left hj] at hf'
      exact h3 i j f f' g hij hf hf' hg
    · rw [List.getElem?_append_left hi] at hf
      have hj2 : j = fss.length := by have := (List.getElem?_eq_some_iff.1 hf').1; simp at this; omega
      subst hj2
      rw [List.getElem?_append_right (Nat.le_refl _), Nat.sub_self] at hf'
      cases hf'
      intro hm
      have := hold i _ f (List.getElem?_eq_getElem (by omega)) hf g hg
      have := hn g hm; omega
    · have hi2 : i = fss.length := by have := (List.getElem?_eq_some_iff.1 hf).1; simp at this; omega
      subst hi2
      rw [List.getElem?_append_right (Nat.le_refl _), Nat.sub_self] at hf
      cases hf
      rw [List.getElem?_append_left hj] at hf'
      intro hm
      have := hold j _ f' (List.getElem?_eq_getElem (by omega)) hf' g hm
      have := hn g hg; omega
    · have h5 := (List.getElem?_eq_some_iff.1 hf).1
      have h6 := (List.getElem?_eq_some_iff.1 hf').1
      simp at h5 h6
      omega
/-- One of two beside each other is parted off: the first keeps its place. -/
theorem St.both (h : St W ps w) {i : Nat} {P P' : Ast} (hi : ps[i]? = some P) (hl : Loc P') :
    ∃ fs, P fs w ∧ ∀ (R : Ast), Loc R → ∀ w' fs' gs, P' fs' w' → R gs w' → Touch fs w w' → (∀ g, g ∈ fs' → g ∈ fs ∨ w.heap.size ≤ g) → (∀ g, g ∈ gs → w.heap.size ≤ g) → (∀ g, g ∈ gs → g ∉ fs') → St W (ps.set i P' ++ [R]) w' := by
  obtain ⟨fss, h1, h2, h3, h4⟩ := h
  have hlt : i < fss.length := by rw [h1]; exact (List.getElem?_eq_some_iff.1 hi).1
  have hpi : i < ps.length := by omega
  obtain ⟨fs, hfs⟩ : ∃ fs, fss[i]? = some fs := ⟨_, List.getElem?_eq_getElem hlt⟩
  have h0 : St W ps w := ⟨fss, h1, h2, h3, h4⟩
  obtain ⟨a0, b0, c0⟩ := h2 i P fs hi hfs
  refine ⟨fs, a0, fun R hr w' fs' gs g1 g2 g3 g4 g5 g6 => ?_⟩
  refine ⟨fss.set i fs' ++ [gs], by simp [h1], fun j S f hS hf => ?_, fun j k f f' g hjk hf hf' hg => ?_, h4.trans (g3.below c0 h4.size)⟩
  · by_cases hj : j < ps.length
    · rw [List.getElem?_append_left (by simpa using hj)] at hS
      rw [List.getElem?_append_left (by simp; omega)] at hf
      by_cases hji : j = i
      · subst hji
        rw [List.getElem?_set_self hpi] at hS
        rw [List.getElem?_set_self hlt] at hf
        cases hS; cases hf
        refine ⟨g1, hl, fun g hg => ?_⟩
        rcases g4 g hg with h5 | h5
        · exact c0 g h5
        · have := h4.size; omega
      · rw [List.getElem?_set_ne (Ne.symm hji)] at hS hf
        obtain ⟨a, b, c⟩ := h2 j S f hS hf
        exact ⟨b.stays f w w' a fun g hg => g3.block g (b.lt f w a g hg) (h3 j i f fs g hji hf hfs hg), b, c⟩
    · have hj2 : j = ps.length := by have := (List.getElem?_eq_some_iff.1 hS).1; simp at this; omega
      subst hj2
      rw [List.getElem?_append_right (by simp)] at hS
      rw [List.getElem?_append_right (by simp; omega)] at hf
      simp [h1] at hS hf
      subst hS hf
      exact ⟨g2, hr, fun g hg => by have := g5 g hg; have := h4.size; omega⟩
  · have old : ∀ m f, m ≠ i → fss[m]? = some f → ∀ g, g ∈ f → g < w.heap.size := fun m f _ hf => by
      have hm2 : m < ps.length := by rw [← h1]; exact (List.getElem?_eq_some_iff.1 hf).1
      obtain ⟨a, b, _⟩ := h2 m _ f (List.getElem?_eq_getElem hm2) hf
      exact b.lt f w a
    have cls : ∀ m f, (fss.set i fs' ++ [gs])[m]? = some f → (m = i ∧ f = fs') ∨ (m = fss.length ∧ f = gs) ∨ (m ≠ i ∧ m < fss.length ∧ fss[m]? = some f) := fun m f hm => by
      by_cases hml : m < fss.length
      · rw [List.getElem?_append_left (by simpa using hml)] at hm
        by_cases hmi : m = i
        · subst hmi; rw [List.getElem?_set_self hlt] at hm; cases hm; exact .inl ⟨rfl, rfl⟩
        · rw [List.getElem?_set_ne (Ne.symm hmi)] at hm; exact .inr (.inr ⟨hmi, hml, hm⟩)
      · have hm2 : m = fss.length := by have := (List.getElem?_eq_some_iff.1 hm).1; simp at this; omega
        subst hm2
        rw [List.getElem?_append_right (by simp)] at hm
        simp at hm
        exact .inr (.inl ⟨rfl, hm.symm⟩)
    intro hm
    rcases cls j f hf with ⟨e1, e2⟩ | ⟨e1, e2⟩ | ⟨e1, e2, e3⟩ <;> rcases cls k f' hf' with ⟨e4, e5⟩ | ⟨e4, e5⟩ | ⟨e4, e5, e6⟩
    · omega
    · subst e2 e5; exact g6 g hm hg
    · subst e2
      rcases g4 g hg with h5 | h5
      · exact h3 i k fs f' g (Ne.symm e4) hfs e6 h5 hm
      · have := old k f' e4 e6 g hm; omega
    · subst e2 e5; exact g6 g hg hm
    · omega
    · subst e2; have := old k f' e4 e6 g hm; have := g5 g hg; omega
    · subst e5
      rcases g4 g hm with h5 | h5
      · exact h3 j i f fs g e1 e3 hfs hg h5
      · have := old j f e1 e3 g hg; omega
    · subst e5; have := old j f e1 e3 g hg; have := g5 g hm; omega
    · exact h3 j k f f' g hjk e3 e6 hg hm
/-- One of them is left out. -/
theorem St.perm {qs : List Ast} (h : St W ps w) (σ : Nat → Nat) (hσ : ∀ i P, qs[i]? = some P → ps[σ i]? = some P) (hinj : ∀ i j, i < qs.length → j < qs.length → σ i = σ j → i = j) : St W qs w := by
  obtain ⟨fss, h1, h2, h3, h4⟩ := h
  have hlt : ∀ i, i < qs.length → σ i < fss.length := fun i hi => by
    rw [h1]; exact (List.getElem?_eq_some_iff.1 (hσ i _ (List.getElem?_eq_getElem hi))).1
  have hget : ∀ i f, ((List.range qs.length).map fun i => fss.getD (σ i) [])[i]? = some f → i < qs.length ∧ fss[σ i]? = some f := fun i f hf => by
    have hi : i < qs.length := by have := (List.getElem?_eq_some_iff.1 hf).1; simpa using this
    rw [List.getElem?_map, List.getElem?_range hi] at hf
    refine ⟨hi, ?_⟩
    rw [getD_some fss [] (σ i) (hlt i hi)]
    simpa using hf
  refine ⟨(List.range qs.length).map fun i => fss.getD (σ i) [], by simp, fun i P f hP hf => ?_, fun i j f f' g hij hf hf' hg => ?_, h4⟩
  · obtain ⟨_, hf2⟩ := hget i f hf
    exact h2 (σ i) P f (hσ i P hP) hf2
  · obtain ⟨hi, hf2⟩ := hget i f hf
    obtain ⟨hj, hf2'⟩ := hget j f' hf'
    exact h3 (σ i) (σ j) f f' g (fun e => hij (hinj i j hi hj e)) hf2 hf2' hg
end

/-! Heaps and lists of the call's own. -/
def HP (p : Nat) (A : Hs) : Ast := fun fs w => HeapA p A fs w
def LS (v : Value) (zs : List Int) : Ast := fun fs w => fs = v.ownBlock.toList ∧ w.ownsRow 0 3 1 v zs.length (zs.map (Value.int .i64))
theorem HP.loc (p : Nat) (A : Hs) : Loc (HP p A) := ⟨fun fs w w' h hb => by
    obtain ⟨m, Q, rfl, rfl, hq, h1⟩ := h
    exact ⟨m, Q, rfl, rfl, ⟨hq.q.stays hb, hq.ok, hq.heap⟩, h1⟩, fun _ _ h => h.lt.1⟩
theorem LS.loc (v : Value) (zs : List Int) : Loc (LS v zs) := ⟨fun fs w w' h hb => ⟨h.1, rowStays h.2 fun g hg _ => hb g (by rw [h.1, hg]; simp)⟩, fun fs w h g hg => by
    rw [h.1] at hg
    cases hv : v.ownBlock with
    | none => rw [hv] at hg; simp at hg
    | some b => rw [hv] at hg; simp at hg; subst hg; exact (h.2.lt g hv).2⟩
section
variable {W w : World} {ps : List Ast} {i p : Nat} {A : Hs}
theorem St.new (h : St W ps w) {n : Nat} (hn : n ≤ 1048576) : Calls Try.prog 12 #[.int .i64 n] w fun r w' => ∃ p, r = .returned (.tuple #[.pointer (some ⟨p, 0, none⟩), .int .i64 0]) ∧ St W (ps ++ [HP p (Hs.new n)]) w' := by
  refine (newA_ok w hn).mono ?_
  rintro r w' ⟨p, fs, hr, h1, hb, hf⟩
  exact ⟨p, hr, h.more (P := HP p (Hs.new n)) h1 (HP.loc _ _) hb hf⟩
theorem St.bump (h : St W ps w) (hi : ps[i]? = some (HP p A)) (v b : Int) : Calls Try.prog 14 #[.pointer (some ⟨p, 0, none⟩), .int .i64 v, .int .i64 b] w fun r w' => r = .returned (.int .i64 (A.bumpE v b)) ∧ St W (ps.set i (HP p (A.bumpA v b))) w' := by
  obtain ⟨fs, h1, h2⟩ := h.step hi (HP.loc p (A.bumpA v b))
  refine (bump_any h1 v b).mono ?_
  rintro r w' ⟨hr, hs⟩
  exact ⟨hr, h2 w' hs⟩
theorem St.pop (h : St W ps w) (hi : ps[i]? = some (HP p A)) : Calls Try.prog 16 #[.pointer (some ⟨p, 0, none⟩)] w fun r w' => r = .returned (.tuple #[.int .i64 A.popV, .int .i64 A.popE]) ∧ St W (ps.set i (HP p A.popA)) w' := by
  obtain ⟨fs, h1, h2⟩ := h.step hi (HP.loc p A.popA)
  refine (pop_all h1).mono ?_
  rintro r w' ⟨hr, hs⟩
  exact ⟨hr, h2 w' hs⟩
theorem St.push (h : St W ps w) (hi : ps[i]? = some (HP p A)) (v : Int) : Calls Try.prog 18 #[.pointer (some ⟨p, 0, none⟩), .int .i64 v] w fun r w' => r = .returned (.int .i64 (A.pushE v)) ∧ St W (ps.set i (HP p (A.pushA v))) w' := by
  obtain ⟨fs, h1, h2⟩ := h.step hi (HP.loc p (A.pushA v))
  refine (push_any h1 v).mono ?_
  rintro r w' ⟨hr, hs⟩
  exact ⟨hr, h2 w' hs⟩
theorem St.has (h : St W ps w) (hi : ps[i]? = some (HP p A)) (v : Int) : Calls Try.prog 20 #[.pointer (some ⟨p, 0, none⟩), .int .i64 v] w fun r w' => r = .returned (.bool (A.hasB v)) ∧ w = w' := by
  obtain ⟨fs, h1⟩ := h.get hi
  exact has_any h1 v
theorem St.len (h : St W ps w) (hi : ps[i]? = some (HP p A)) : Calls Try.prog 22 #[.pointer (some ⟨p, 0, none⟩)] w fun r w' => r = .returned (.int .i64 A.lenN) ∧ w = w' := by
  obtain ⟨fs, h1⟩ := h.get hi
  exact len_any h1
theorem St.copy (h : St W ps w) (hi : ps[i]? = some (HP p A)) : Calls Try.prog 24 #[.pointer (some ⟨p, 0, none⟩)] w fun r w' => ∃ q, r = .returned (.pointer (some ⟨q, 0, none⟩)) ∧ St W (ps ++ [HP q A]) w' := by
  obtain ⟨fs, h1⟩ := h.get hi
  refine (copy_any h1).mono ?_
  rintro r w' ⟨q, gs, hr, h2, hb, hg⟩
  exact ⟨q, hr, h.more (P := HP q A) h2 (HP.loc _ _) hb hg⟩
theorem St.made (h : St W ps w) {a : Option Addr} {c : Nat} {zs : List Int} (hR : U16R w a zs) (hs : Small zs) (hl : zs.length ≤ 200) :
    Calls Try.prog 26 #[.slice a zs.length c] w fun r w' => ∃ p, r = .returned (.pointer (some ⟨p, 0, none⟩)) ∧ St W (ps ++ [HP p (madeA zs)]) w' := by
  refine (made_any hR hs hl).mono ?_
  rintro r w' ⟨p, hr, fs, h1, hf, hb⟩
  exact ⟨p, hr, h.more (P := HP p (madeA zs)) h1 (HP.loc _ _) hb hf⟩
theorem St.all (h : St W ps w) (hi : ps[i]? = some (HP p A)) (hn : A.n ≤ 1000) : Calls Try.prog 27 #[.pointer (some ⟨p, 0, none⟩)] w fun r w' => ∃ a c, r = .returned (.slice a (listOf A).length c) ∧ St W (ps.set i (HP p A.emptied) ++ [LS (.slice a (listOf A).length c) (listOf A)]) w' := by
  obtain ⟨fs, h1, h2⟩ := h.both hi (HP.loc p A.emptied)
  refine (all_any h1 hn).mono ?_
  rintro r w' ⟨v, rfl, fs', g1, g2, g3, g4⟩
  obtain ⟨a, c, rfl⟩ : ∃ a c, v = .slice a (listOf A).length c := by
    rcases g4.1.2 with ⟨h5, h6⟩ | ⟨g, cap, cur, h5, _⟩
    · exact ⟨none, 0, by rw [h6]; exact h5⟩
    · exact ⟨_, _, h5⟩
  refine ⟨a, c, rfl, h2 (LS (.slice a (listOf A).length c) (listOf A)) (LS.loc _ _) w' fs' _ g1 ⟨rfl, ⟨g4.1.1, ?_⟩⟩ g2 g3 (fun g hg => ?_) (fun g hg => ?_)⟩
  · rcases g4.1.2 with h5 | ⟨g, cap, cur, h5, h6, h7⟩
    · exact .inl h5
    · exact .inr ⟨g, cap, cur, h5, Nat.zero_le _, h7⟩
  · cases hv : Value.ownBlock (.slice a (listOf A).length c) with
    | none => rw [hv] at hg; simp at hg
    | some b => rw [hv] at hg; simp at hg; subst hg; exact (g4.1.lt g hv).1
  · cases hv : Value.ownBlock (.slice a (listOf A).length c) with
    | none => rw [hv] at hg; simp at hg
    | some b => rw [hv] at hg; simp at hg; subst hg; exact g4.2 g hv
end

/-! same -/
/-- A slice of integers whose elements are zs. -/
def IntsR (w : World) (a : Option Addr) (zs : List Int) : Prop :=
  zs.length = 0 ∨ ∃ b off, a = some ⟨b, off, none⟩ ∧ b < w.heap.size ∧ ∀ j, j < zs.length → w.cell? ⟨b, off + j, none⟩ = some (.int .i64 (zs.getD j 0))
theorem IntsR.at {w : World} {a : Option Addr} {zs : List Int} (h : IntsR w a zs) {k : Nat} (hk : k < zs.length) :
    ∃ b off x, a = some ⟨b, off, none⟩ ∧ Hid (zs[k]? = some x) ∧ w.cell? ⟨b, off + k, none⟩ = some (.int .i64 x) := by
  rcases h with h | ⟨b, off, ha, _, hc⟩
  · omega
  · exact ⟨b, off, _, ha, getD_some zs 0 k hk, hc k hk⟩
theorem LS.reads {a : Option Addr} {n c : Nat} {zs : List Int} {fs : List Nat} {w : World} (h : LS (.slice a n c) zs fs w) : IntsR w a zs ∧ n = zs.length := by
  obtain ⟨_, hl, h2 | ⟨g, cap, cur, h2, h3, h4, h5, h6, h7, h8⟩⟩ := h
  · obtain ⟨h2, h0⟩ := h2
    cases h2
    exact ⟨.inl h0, h0.symm⟩
  · cases h2
    refine ⟨.inr ⟨g, 0, rfl, (Array.getElem?_eq_some_iff.1 h4).1, fun j hj => ?_⟩, rfl⟩
    have h9 := congrArg (fun l : List Value => l[j]?) h8
    simp only [List.getElem?_take] at h9
    rw [if_pos (by omega), List.getElem?_map, getD_some zs 0 j hj] at h9
    simp only [World.cell?, h4, Nat.zero_add]
    simp only [Array.getElem?_toList] at h9
    simp [h9]
theorem St.ints {W w : World} {ps : List Ast} (h : St W ps w) {i : Nat} {a : Option Addr} {n c : Nat} {zs : List Int} (hi : ps[i]? = some (LS (.slice a n c) zs)) : IntsR w a zs ∧ n = zs.length := by
  obtain ⟨fs, h1⟩ := h.get hi
  exact h1.reads
def SameTo (xs ys : List Int) (k : Nat) : Prop := ∀ j, j < k → xs[j]? = ys[j]?
theorem SameTo.succ {xs ys : List Int} {k : Nat} (h : SameTo xs ys k) {x : Int} (hx : xs[k]? = some x) (hy : ys[k]? = some x) : SameTo xs ys (k + 1) := fun j hj => by
  by_cases e : j = k
  · subst e; rw [hx, hy]
  · exact h j (by omega)
theorem QuietTo.more (w : World) (q n : Nat) : QuietTo w ((w.drewN q).drewN n) := ⟨q + n, World.drewN_drewN ..⟩
theorem QuietTo.more1 (w : World) (q : Nat) : QuietTo w (w.drewN q) := ⟨q, rfl⟩
set_option maxHeartbeats 1000000 in
theorem same_any {a c : Option Addr} {ca cc n : Nat} {xs ys : List Int} {w : World} (hmx : xs.length ≤ 1000000) (hX : IntsR w a xs) (hY : IntsR w c ys) (hn : n = ys.length) (hxy : xs = ys) :
    Calls Try.prog 28 #[.slice a xs.length ca, .slice c n cc] w fun e w' => e = .returned (.bool true) ∧ QuietTo w w' := by
  subst hn
  have HL := Lib.hid (congrArg List.length hxy)
  have HXY := Lib.hid hxy
  have e2 : ((xs.length : Int) != ys.length) = false := by simp [hxy]
  have hmi : (xs.length : Int) ≤ 1000000 := by omega
  clear hxy
  go_enter Try.func28, Try.ntmps28
  go_wp2
  go_loopw [5] (fun i wr => ∃ k : Nat, k ≤ xs.length ∧ i = .int .i64 k ∧ Hid (QuietTo w wr)) (fun i _ => xs.length - (intOf i).toNat)
  case atStart => exact ⟨0, Nat.zero_le _, rfl, 0, rfl⟩
  case round =>
    obtain ⟨k, hk, rfl, hq0⟩ := hrel
    obtain ⟨q, rfl⟩ := hq0.out
    clear hq0
    by_cases hlt : k < xs.length
    · have hlt2 : k < ys.length := by have := HL.out; omega
      obtain ⟨b, off, x, rfl, hx, hcx⟩ := hX.at hlt
      obtain ⟨b2, off2, y, rfl, hy, hcy⟩ := hY.at hlt2
      clear hX hY
      have he : x = y := by
        have h1 := hx.out
        rw [HXY.out, hy.out] at h1
        injection h1 with h1; exact h1.symm
      subst he
      have e3 : (x != x) = false := by simp
      go_wp2
      go_quiet (fail)
      go_wp2
      go_roundw
      case rel => exact ⟨k + 1, by omega, by go_num, Lib.hid ⟨_, rfl⟩⟩
      case measure => simp [intOf]; omega
    · go_wp2
      go_ret
      exact ⟨rfl, QuietTo.more1 _ _⟩
theorem listOf_len {A : Hs} : (listOf A).length ≤ A.n := by
  unfold listOf Hs.popAll; rw [List.length_map]; exact Hs.popL_len_le _ _
/-- Two lists that were popped are the same. -/
theorem St.same {W w : World} {ps : List Ast} (h : St W ps w) {i j : Nat} {a1 a2 : Option Addr} {n2 c1 c2 : Nat} {A : Hs} {ys : List Int} (hA : A.n ≤ 1000) (hi : ps[i]? = some (LS (.slice a1 (listOf A).length c1) (listOf A))) (hj : ps[j]? = some (LS (.slice a2 n2 c2) ys)) (hxy : listOf A = ys) :
    Calls Try.prog 28 #[.slice a1 (listOf A).length c1, .slice a2 n2 c2] w fun e w' => e = .returned (.bool true) ∧ QuietTo w w' :=
  same_any (by have := listOf_len (A := A); omega) (h.ints hi).1 (h.ints hj).1 (h.ints hj).2 hxy

/-! Heaps that are alike. -/
structure Alike (A B : Hs) : Prop where
  n : A.n = B.n
  act : ∀ e, e < A.n → A.act e = B.act e
  inn : ∀ e, e < A.n → A.inn e = B.inn e
namespace Alike
variable {A B : Hs}
theorem best (h : Alike A B) : A.best = B.best := by unfold Hs.best; rw [← h.n]; exact bestN_congr h.act h.inn
theorem pop (h : Alike A B) : Alike A.popA B.popA := by
  unfold Hs.popA
  rw [← h.best]
  cases A.best with
  | none => exact h
  | some e =>
    refine ⟨h.n, h.act, fun f hf => ?_⟩
    show upN A.inn e false f = upN B.inn e false f
    unfold upN
    split
    · rfl
    · exact h.inn f hf
theorem popL : ∀ (k : Nat) {A B : Hs}, Alike A B → Hs.popL k A = Hs.popL k B
  | 0, _, _, _ => rfl
  | k + 1, A, B, h => by
    have h0 : ∀ C, Hs.popL (k + 1) C = match C.best with | none => [] | some e => e :: Hs.popL k C.popA := fun _ => rfl
    rw [h0, h0, ← h.best]
    cases A.best with
    | none => rfl
    | some e => dsimp only; rw [popL k h.pop]
theorem list (h : Alike A B) : listOf A = listOf B := by
  unfold listOf Hs.popAll; rw [popL _ h, h.n]
end Alike
theorem after_act : ∀ (k : Nat) (A : Hs), (A.after k).act = A.act
  | 0, _ => rfl
  | k + 1, A => (after_act k A.popA).trans (by unfold Hs.popA; cases A.best <;> rfl)
theorem emptied_act (A : Hs) : A.emptied.act = A.act := after_act _ _
theorem emptied_n (A : Hs) : A.emptied.n = A.n := Hs.after_n _ _
end Go.Proofs.Ytfighepopmaimaa
