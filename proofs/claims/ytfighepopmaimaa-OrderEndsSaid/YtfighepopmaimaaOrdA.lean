/-
  Plain: a binary tree of elements in which none comes before its parent, with the place of each; moves of one element up and down; what is best.
-/
namespace Go.Proofs.Ytfighepopmaimaa

/-- Which element comes first: the greater activity, of several the least. -/
def bef (act : Nat → Int) (e f : Nat) : Bool := decide (act f < act e) || (decide (act e = act f) && decide (e < f))
section
variable {act : Nat → Int} {a b c : Nat}
theorem bef_iff : bef act a b = true ↔ act b < act a ∨ (act a = act b ∧ a < b) := by unfold bef; simp
theorem bef_no : bef act a b = false ↔ act a < act b ∨ (act a = act b ∧ b ≤ a) := by
  rw [← Bool.not_eq_true, bef_iff]; omega
theorem bef_asymm (h : bef act a b = true) : bef act b a = false := by rw [bef_iff] at h; rw [bef_no]; omega
theorem bef_trans (h : bef act a b = true) (k : bef act b c = true) : bef act a c = true := by rw [bef_iff] at *; omega
theorem bef_ntrans (h : bef act a b = false) (k : bef act b c = false) : bef act a c = false := by rw [bef_no] at *; omega
theorem bef_total (h : bef act a b = false) (k : a ≠ b) : bef act b a = true := by rw [bef_no] at h; rw [bef_iff]; omega
theorem bef_self : bef act a a = false := by rw [bef_no]; omega
end

/-- The best of the first k elements. -/
def bestN (act : Nat → Int) (inn : Nat → Bool) : Nat → Option Nat
  | 0 => none
  | k + 1 => match bestN act inn k with
    | none => if inn k then some k else none
    | some j => if inn k && decide (act j < act k) then some k else some j
theorem bestN_some {act : Nat → Int} {inn : Nat → Bool} : ∀ {k e : Nat}, bestN act inn k = some e → e < k ∧ inn e = true
  | 0, e, h => by simp [bestN] at h
  | k + 1, e, h => by
    unfold bestN at h
    cases hb : bestN act inn k with
    | none =>
      rw [hb] at h; dsimp only at h
      split at h
      · injection h with h; subst h; exact ⟨by omega, by assumption⟩
      · cases h
    | some j =>
      rw [hb] at h; dsimp only at h
      obtain ⟨h1, h2⟩ := bestN_some hb
      split at h
      · rename_i hc; injection h with h; subst h; simp at hc; exact ⟨by omega, hc.1⟩
      · injection h with h; subst h; exact ⟨by omega, h2⟩
theorem bestN_none {act : Nat → Int} {inn : Nat → Bool} : ∀ {k : Nat}, bestN act inn k = none ↔ ∀ f, f < k → inn f = false
  | 0 => by simp [bestN]
  | k + 1 => by
    unfold bestN
    cases hb : bestN act inn k with
    | none =>
      have h1 := bestN_none.1 hb
      dsimp only
      constructor
      · intro h f hf
        split at h
        · cases h
        · rename_i hc
          by_cases hk : f = k
          · subst hk; simpa using hc
          · exact h1 f (by omega)
      · intro h
        rw [if_neg (by rw [h k (by omega)]; decide)]
    | some j =>
      obtain ⟨h1, h2⟩ := bestN_some hb
      dsimp only
      constructor
      · intro h; split at h <;> cases h
      · intro h; rw [h j (by omega)] at h2; cases h2
theorem bestN_before {act : Nat → Int} {inn : Nat → Bool} : ∀ {k e : Nat}, bestN act inn k = some e → ∀ f, f < k → inn f = true → f ≠ e → bef act e f = true
  | 0, e, h => by simp [bestN] at h
  | k + 1, e, h => by
    unfold bestN at h
    intro f hf hi hne
    cases hb : bestN act inn k with
    | none =>
      rw [hb] at h; dsimp only at h
      split at h
      · injection h with h; subst h
        have := bestN_none.1 hb f (by omega)
        rw [hi] at this; cases this
      · cases h
    | some j =>
      rw [hb] at h; dsimp only at h
      obtain ⟨h1, h2⟩ := bestN_some hb
      have ih := bestN_before hb
      split at h
      · rename_i hc; injection h with h; subst h; simp at hc
        rw [bef_iff]
        by_cases hj : f = j
        · subst hj; exact .inl hc.2
        · have := ih f (by omega) hi hj; rw [bef_iff] at this; omega
      · rename_i hc; injection h with h; subst h
        by_cases hk : f = k
        · subst hk; rw [hi] at hc; simp at hc; rw [bef_iff]; omega
        · exact ih f (by omega) hi hne
theorem bestN_eq {act : Nat → Int} {inn : Nat → Bool} {k e : Nat} (h1 : e < k) (h2 : inn e = true) (h3 : ∀ f, f < k → inn f = true → f ≠ e → bef act e f = true) : bestN act inn k = some e := by
  cases hb : bestN act inn k with
  | none => rw [bestN_none.1 hb e h1] at h2; cases h2
  | some j =>
    obtain ⟨g1, g2⟩ := bestN_some hb
    by_cases hj : j = e
    · rw [hj]
    · have a1 := h3 j g1 g2 hj
      have a2 := bestN_before hb e h1 h2 (Ne.symm hj)
      rw [bef_asymm a1] at a2; cases a2
theorem bestN_congr {act act' : Nat → Int} {inn inn' : Nat → Bool} : ∀ {k : Nat}, (∀ f, f < k → act f = act' f) → (∀ f, f < k → inn f = inn' f) → bestN act inn k = bestN act' inn' k
  | 0, _, _ => rfl
  | k + 1, h1, h2 => by
    unfold bestN
    rw [bestN_congr (k := k) (fun f hf => h1 f (by omega)) (fun f hf => h2 f (by omega)), h2 k (by omega)]
    cases hb : bestN act' inn' k with
    | none => rfl
    | some j =>
      have := (bestN_some hb).1
      dsimp only
      rw [h1 j (by omega), h1 k (by omega)]

/-- n elements, their activities, the tree by place, the places by element. -/
structure Qs where
  n : Nat
  act : Nat → Int
  tree : List Nat
  pl : Nat → Int
def upN {α : Type} (f : Nat → α) (p : Nat) (v : α) : Nat → α := fun q => if q = p then v else f q
theorem upN_same {α : Type} (f : Nat → α) (p : Nat) (v : α) : upN f p v p = v := by simp [upN]
theorem upN_other {α : Type} (f : Nat → α) {p q : Nat} (v : α) (h : q ≠ p) : upN f p v q = f q := by simp [upN, h]
namespace Qs
/-- The element at a place. -/
def at_ (Q : Qs) (i : Nat) : Nat := Q.tree.getD i 0
/-- Every element is at its place. -/
structure Ok (Q : Qs) : Prop where
  lt : ∀ i, i < Q.tree.length → Q.at_ i < Q.n
  here : ∀ i, i < Q.tree.length → Q.pl (Q.at_ i) = (i : Int)
  gone : ∀ e, e < Q.n → e ∉ Q.tree → Q.pl e = -1
/-- None comes before its parent. -/
def Heap (Q : Qs) : Prop := ∀ i, 0 < i → i < Q.tree.length → bef Q.act (Q.at_ i) (Q.at_ ((i - 1) / 2)) = false
/-- But for the one at p. -/
structure HeapUp (Q : Qs) (p : Nat) : Prop where
  rest : ∀ i, 0 < i → i < Q.tree.length → i ≠ p → bef Q.act (Q.at_ i) (Q.at_ ((i - 1) / 2)) = false
  over : ∀ i, 0 < i → i < Q.tree.length → (i - 1) / 2 = p → 0 < p → bef Q.act (Q.at_ i) (Q.at_ ((p - 1) / 2)) = false
/-- But for those below p. -/
structure HeapDn (Q : Qs) (p : Nat) : Prop where
  rest : ∀ i, 0 < i → i < Q.tree.length → (i - 1) / 2 ≠ p → bef Q.act (Q.at_ i) (Q.at_ ((i - 1) / 2)) = false
  over : ∀ i, 0 < i → i < Q.tree.length → (i - 1) / 2 = p → 0 < p → bef Q.act (Q.at_ i) (Q.at_ ((p - 1) / 2)) = false
def swap (Q : Qs) (p o : Nat) : Qs :=
  { Q with tree := (Q.tree.set p (Q.at_ o)).set o (Q.at_ p), pl := upN (upN Q.pl (Q.at_ o) p) (Q.at_ p) o }
section
variable {Q : Qs} {p : Nat}
theorem get {i : Nat} (h : i < Q.tree.length) : Q.tree[i]? = some (Q.at_ i) := by unfold at_; rw [List.getD_eq_getElem?_getD, List.getElem?_eq_getElem h]; rfl
theorem mem_at {i : Nat} (h : i < Q.tree.length) : Q.at_ i ∈ Q.tree := List.mem_of_getElem? (get h)
theorem at_of_mem {e : Nat} (h : e ∈ Q.tree) : ∃ i, i < Q.tree.length ∧ Q.at_ i = e := by
  obtain ⟨i, hi, he⟩ := List.getElem_of_mem h
  exact ⟨i, hi, by unfold at_; rw [List.getD_eq_getElem?_getD, List.getElem?_eq_getElem hi]; exact he⟩
theorem Ok.inj (h : Q.Ok) {i j : Nat} (hi : i < Q.tree.length) (hj : j < Q.tree.length) (e : Q.at_ i = Q.at_ j) : i = j := by
  have h1 := h.here i hi; have h2 := h.here j hj; rw [e] at h1; omega
theorem Ok.mem (h : Q.Ok) {e : Nat} (he : e < Q.n) : e ∈ Q.tree ↔ Q.pl e ≠ -1 := by
  constructor
  · intro hm hp
    obtain ⟨i, hi, rfl⟩ := at_of_mem hm
    have := h.here i hi; omega
  · intro hp
    exact Classical.byContradiction fun hm => hp (h.gone e he hm)
theorem Ok.place (h : Q.Ok) {e : Nat} (hm : e ∈ Q.tree) : ∃ i, i < Q.tree.length ∧ Q.at_ i = e ∧ Q.pl e = (i : Int) := by
  obtain ⟨i, hi, rfl⟩ := at_of_mem hm
  exact ⟨i, hi, rfl, h.here i hi⟩
/-- A tree that holds each element at most once is no longer than there are elements. -/
theorem Ok.nodup (h : Q.Ok) : Q.tree.Nodup := by
  rw [List.Nodup, List.pairwise_iff_getElem]
  intro i j hi hj hij e
  have h1 := get hi
  have h2 := get hj
  rw [List.getElem?_eq_getElem hi] at h1
  rw [List.getElem?_eq_getElem hj] at h2
  injection h1 with h1
  injection h2 with h2
  have := h.inj hi hj (by rw [← h1, ← h2]; exact e); omega
theorem nodup_len : ∀ (n : Nat) (l : List Nat), l.Nodup → (∀ e, e ∈ l → e < n) → l.length ≤ n
  | 0, l, _, h => by
    cases l with
    | nil => exact Nat.le_refl _
    | cons x l => exact absurd (h x (by simp)) (by omega)
  | n + 1, l, hn, h => by
    have h1 := nodup_len n (l.erase n) (hn.erase n) (fun e he => by
      have h2 := (hn.mem_erase_iff).1 he
      have := h e h2.2
      omega)
    have h3 : l.length ≤ (l.erase n).length + 1 := by rw [List.length_erase]; split <;> omega
    omega
theorem Ok.len (h : Q.Ok) : Q.tree.length ≤ Q.n := by
  refine nodup_len _ _ h.nodup fun e he => ?_
  obtain ⟨i, hi, rfl⟩ := at_of_mem he
  exact h.lt i hi

theorem swap_len (p o : Nat) : (Q.swap p o).tree.length = Q.tree.length := by simp [swap]
theorem swap_at {p o : Nat} (hp : p < Q.tree.length) (ho : o < Q.tree.length) (i : Nat) : (Q.swap p o).at_ i = if i = o then Q.at_ p else if i = p then Q.at_ o else Q.at_ i := by
  unfold swap at_
  simp only [List.getD_eq_getElem?_getD, List.getElem?_set]
  by_cases h1 : i = o
  · subst h1; simp [ho]
  · by_cases h2 : i = p
    · subst h2; simp [Ne.symm h1, h1, hp]
    · simp [Ne.symm h1, h1, Ne.symm h2, h2]
theorem swap_mem {p o : Nat} (hp : p < Q.tree.length) (ho : o < Q.tree.length) (e : Nat) : e ∈ (Q.swap p o).tree ↔ e ∈ Q.tree := by
  constructor
  · intro h
    obtain ⟨i, hi, rfl⟩ := at_of_mem h
    rw [swap_len] at hi
    rw [swap_at hp ho]
    split
    · exact mem_at hp
    · split
      · exact mem_at ho
      · exact mem_at hi
  · intro h
    obtain ⟨i, hi, rfl⟩ := at_of_mem h
    by_cases h1 : i = p
    · have := mem_at (Q := Q.swap p o) (i := o) (by rw [swap_len]; exact ho)
      rw [swap_at hp ho, if_pos rfl] at this; rw [h1]; exact this
    · by_cases h2 : i = o
      · have := mem_at (Q := Q.swap p o) (i := p) (by rw [swap_len]; exact hp)
        rw [swap_at hp ho, if_neg (by omega), if_pos rfl] at this; rw [h2]; exact this
      · have := mem_at (Q := Q.swap p o) (i := i) (by rw [swap_len]; exact hi)
        rw [swap_at hp ho, if_neg h2, if_neg h1] at this; exact this
theorem Ok.swap (h : Q.Ok) {p o : Nat} (hp : p < Q.tree.length) (ho : o < Q.tree.length) : (Q.swap p o).Ok := by
  refine ⟨fun i hi => ?_, fun i hi => ?_, fun e he hm => ?_⟩
  · rw [swap_len] at hi
    show (Q.swap p o).at_ i < Q.n
    rw [swap_at hp ho]
    split
    · exact h.lt p hp
    · split
      · exact h.lt o ho
      · exact h.lt i hi
  · rw [swap_len] at hi
    rw [swap_at hp ho]
    show upN (upN Q.pl (Q.at_ o) p) (Q.at_ p) o _ = _
    by_cases h1 : i = o
    · subst h1; rw [if_pos rfl, upN_same]
    · rw [if_neg h1]
      by_cases h2 : i = p
      · subst h2
        rw [if_pos rfl, upN_other _ _ (fun e => h1 (h.inj hi ho e.symm)), upN_same]
      · rw [if_neg h2, upN_other _ _ (fun e => h2 (h.inj hi hp e)), upN_other _ _ (fun e => h1 (h.inj hi ho e))]
        exact h.here i hi
  · rw [swap_mem hp ho] at hm
    show upN (upN Q.pl (Q.at_ o) p) (Q.at_ p) o e = -1
    rw [upN_other _ _ (fun e' => hm (by rw [e']; exact mem_at hp)), upN_other _ _ (fun e' => hm (by rw [e']; exact mem_at ho))]
    exact h.gone e he hm
theorem HeapUp.done (h : Q.HeapUp p) (hp : p = 0 ∨ bef Q.act (Q.at_ p) (Q.at_ ((p - 1) / 2)) = false) : Q.Heap := by
  intro i h0 hi
  by_cases h1 : i = p
  · subst h1; rcases hp with hp | hp
    · omega
    · exact hp
  · exact h.rest i h0 hi h1
theorem HeapUp.step (h : Q.HeapUp p) (hp : p < Q.tree.length) (h0 : 0 < p) (hb : bef Q.act (Q.at_ p) (Q.at_ ((p - 1) / 2)) = true) : (Q.swap p ((p - 1) / 2)).HeapUp ((p - 1) / 2) := by
  have ho : (p - 1) / 2 < Q.tree.length := by omega
  have hpo : (p - 1) / 2 < p := by omega
  generalize hq : (p - 1) / 2 = o at *
  refine ⟨fun i hi0 hi hne => ?_, fun i hi0 hi hpar ho0 => ?_⟩
  · rw [swap_len] at hi
    show bef Q.act _ _ = false
    rw [swap_at hp ho, swap_at hp ho, if_neg hne]
    by_cases h1 : i = p
    · subst h1; rw [if_pos rfl, hq, if_pos rfl]; exact bef_asymm hb
    · rw [if_neg h1]
      by_cases h2 : (i - 1) / 2 = p
      · rw [h2, if_neg (by omega), if_pos rfl, ← hq]; exact h.over i hi0 hi h2 h0
      · by_cases h3 : (i - 1) / 2 = o
        · rw [h3, if_pos rfl]
          have h4 := h.rest i hi0 hi h1
          rw [h3] at h4
          exact bef_ntrans h4 (bef_asymm hb)
        · rw [if_neg h3, if_neg h2]; exact h.rest i hi0 hi h1
  · rw [swap_len] at hi
    show bef Q.act _ _ = false
    rw [swap_at hp ho, swap_at hp ho, if_neg (show ¬ (o - 1) / 2 = o by omega), if_neg (show ¬ (o - 1) / 2 = p by omega), if_neg (show ¬ i = o by omega)]
    have h5 := h.rest o ho0 ho (by omega)
    by_cases h1 : i = p
    · rw [if_pos h1]; exact h5
    · rw [if_neg h1]
      have h6 := h.rest i hi0 hi h1
      rw [hpar] at h6
      exact bef_ntrans h6 h5
theorem HeapDn.done (h : Q.HeapDn p) (hp : ∀ i, 0 < i → i < Q.tree.length → (i - 1) / 2 = p → bef Q.act (Q.at_ i) (Q.at_ p) = false) : Q.Heap := by
  intro i h0 hi
  by_cases h1 : (i - 1) / 2 = p
  · rw [h1]; exact hp i h0 hi h1
  · exact h.rest i h0 hi h1
theorem HeapDn.step (h : Q.HeapDn p) {c : Nat} (hc : c < Q.tree.length) (hc0 : 0 < c) (hcp : (c - 1) / 2 = p) (hb : bef Q.act (Q.at_ c) (Q.at_ p) = true) (hs : ∀ i, 0 < i → i < Q.tree.length → (i - 1) / 2 = p → bef Q.act (Q.at_ i) (Q.at_ c) = false) : (Q.swap p c).HeapDn c := by
  have hp : p < Q.tree.length := by omega
  have hpc : p < c := by omega
  refine ⟨fun i hi0 hi hne => ?_, fun i hi0 hi hpar _ => ?_⟩
  · rw [swap_len] at hi
    show bef Q.act _ _ = false
    rw [swap_at hp hc, swap_at hp hc, if_neg hne]
    by_cases h1 : (i - 1) / 2 = p
    · rw [if_pos h1]
      by_cases h2 : i = c
      · rw [if_pos h2]; exact bef_asymm hb
      · rw [if_neg h2, if_neg (show ¬ i = p by omega)]; exact hs i hi0 hi h1
    · rw [if_neg h1]
      by_cases h2 : i = c
      · subst h2; exact absurd hcp h1
      · rw [if_neg h2]
        by_cases h3 : i = p
        · rw [if_pos h3]; subst h3; exact h.over c hc0 hc hcp hi0
        · rw [if_neg h3]; exact h.rest i hi0 hi h1
  · rw [swap_len] at hi
    show bef Q.act _ _ = false
    rw [swap_at hp hc, swap_at hp hc, if_neg (show ¬ i = c by omega), if_neg (show ¬ i = p by omega), if_neg (show ¬ (c - 1) / 2 = c by omega), if_pos hcp]
    have := h.rest i hi0 hi (by omega)
    rw [hpar] at this; exact this
/-- At the root is the best. -/
theorem Heap.root (h : Q.Heap) (ho : Q.Ok) (h0 : 0 < Q.tree.length) : bestN Q.act (fun e => decide (e ∈ Q.tree)) Q.n = some (Q.at_ 0) := by
  have key : ∀ i, i < Q.tree.length → bef Q.act (Q.at_ i) (Q.at_ 0) = false := by
    intro i
    induction i using Nat.strongRecOn with
    | ind i ih =>
      intro hi
      by_cases hz : i = 0
      · subst hz; exact bef_self
      · exact bef_ntrans (h i (by omega) hi) (ih ((i - 1) / 2) (by omega) (by omega))
  refine bestN_eq (ho.lt 0 h0) (by simpa using mem_at h0) fun f hf hm hne => ?_
  simp at hm
  obtain ⟨i, hi, rfl⟩ := at_of_mem hm
  exact bef_total (key i hi) hne
/-- The activity of one grows. -/
theorem Heap.raise (h : Q.Heap) (ho : Q.Ok) {e : Nat} {x : Int} (hx : Q.act e ≤ x) {p : Nat} (hp : p < Q.tree.length) (hpe : Q.at_ p = e) : ({ Q with act := upN Q.act e x } : Qs).HeapUp p := by
  have hat : ∀ i, ({ Q with act := upN Q.act e x } : Qs).at_ i = Q.at_ i := fun _ => rfl
  have hup : ∀ i, i < Q.tree.length → i ≠ p → upN Q.act e x (Q.at_ i) = Q.act (Q.at_ i) := fun i hi hne => upN_other _ _ fun e' => hne (ho.inj hi hp (e'.trans hpe.symm))
  have hsame : upN Q.act e x (Q.at_ p) = x := by rw [hpe, upN_same]
  refine ⟨fun i h0 hi hne => ?_, fun i h0 hi hpar hp0 => ?_⟩
  · change i < Q.tree.length at hi
    have h1 := h i h0 hi
    rw [hat, hat]
    rw [bef_no] at h1 ⊢
    dsimp only
    rw [hup i hi hne]
    by_cases h2 : (i - 1) / 2 = p
    · rw [h2, hsame]; rw [h2, hpe] at h1; rw [hpe]; omega
    · rw [hup _ (by omega) h2]; exact h1
  · change i < Q.tree.length at hi
    have h1 := h i h0 hi
    have h2 := h p hp0 hp
    rw [hpar] at h1
    have h3 := bef_ntrans h1 h2
    rw [hat, hat]
    rw [bef_no] at h3 ⊢
    dsimp only
    rw [hup i hi (by omega), hup ((p - 1) / 2) (by omega) (by omega)]; exact h3
/-- The activity of one that is not in the tree is another one. -/
theorem Heap.away (h : Q.Heap) {e : Nat} {x : Int} (he : e ∉ Q.tree) : ({ Q with act := upN Q.act e x } : Qs).Heap := by
  intro i h0 hi
  change i < Q.tree.length at hi
  have h1 := h i h0 hi
  show bef (upN Q.act e x) (Q.at_ i) (Q.at_ ((i - 1) / 2)) = false
  rw [bef_no] at h1 ⊢
  rw [upN_other _ _ (fun e' => he (by rw [← e']; exact mem_at hi)), upN_other _ _ (fun e' => he (by rw [← e']; exact mem_at (show (i - 1) / 2 < Q.tree.length by omega)))]
  exact h1
/-- One more at the end. -/
def snoc (Q : Qs) (e : Nat) : Qs := { Q with tree := Q.tree ++ [e], pl := upN Q.pl e Q.tree.length }
theorem snoc_at (e i : Nat) (hi : i < Q.tree.length) : (Q.snoc e).at_ i = Q.at_ i := by unfold snoc at_; simp [List.getD_eq_getElem?_getD, List.getElem?_append_left hi]
theorem snoc_last (e : Nat) : (Q.snoc e).at_ Q.tree.length = e := by unfold snoc at_; simp [List.getD_eq_getElem?_getD]
theorem Ok.snoc (h : Q.Ok) {e : Nat} (he : e < Q.n) (hm : e ∉ Q.tree) : (Q.snoc e).Ok := by
  have hl : (Q.snoc e).tree.length = Q.tree.length + 1 := by simp [Qs.snoc]
  refine ⟨fun i hi => ?_, fun i hi => ?_, fun f hf hmf => ?_⟩
  · show (Q.snoc e).at_ i < Q.n
    by_cases h1 : i < Q.tree.length
    · rw [snoc_at _ _ h1]; exact h.lt i h1
    · obtain rfl : i = Q.tree.length := by omega
      rw [snoc_last]; exact he
  · show upN Q.pl e Q.tree.length _ = _
    by_cases h1 : i < Q.tree.length
    · rw [snoc_at _ _ h1, upN_other _ _ (fun e' => hm (by rw [← e']; exact mem_at h1))]; exact h.here i h1
    · obtain rfl : i = Q.tree.length := by omega
      rw [snoc_last, upN_same]
  · have h2 : f ∉ Q.tree ∧ f ≠ e := by
      refine ⟨fun h3 => hmf ?_, fun h3 => hmf ?_⟩
      · show f ∈ Q.tree ++ [e]; simp [h3]
      · show f ∈ Q.tree ++ [e]; simp [h3]
    show upN Q.pl e Q.tree.length f = -1
    rw [upN_other _ _ h2.2]; exact h.gone f hf h2.1
theorem Heap.snoc (h : Q.Heap) (e : Nat) : (Q.snoc e).HeapUp Q.tree.length := by
  have hl : (Q.snoc e).tree.length = Q.tree.length + 1 := by simp [Qs.snoc]
  refine ⟨fun i h0 hi hne => ?_, fun i h0 hi hpar hp => ?_⟩
  · rw [snoc_at _ _ (show i < Q.tree.length by omega), snoc_at _ _ (show (i - 1) / 2 < Q.tree.length by omega)]; exact h i h0 (by omega)
  · omega
/-- The last one goes. -/
def drop (Q : Qs) (e : Nat) : Qs := { Q with tree := Q.tree.take (Q.tree.length - 1), pl := upN Q.pl e (-1) }
theorem drop_at (e i : Nat) (hi : i < Q.tree.length - 1) : (Q.drop e).at_ i = Q.at_ i := by unfold drop at_; rw [List.getD_eq_getElem?_getD, List.getD_eq_getElem?_getD, List.getElem?_take_of_lt hi]
theorem drop_len (e : Nat) : (Q.drop e).tree.length = Q.tree.length - 1 := by simp [drop]
theorem drop_mem (h : Q.Ok) {e f : Nat} (h0 : 0 < Q.tree.length) (he : Q.at_ (Q.tree.length - 1) = e) : f ∈ (Q.drop e).tree ↔ f ∈ Q.tree ∧ f ≠ e := by
  constructor
  · intro hm
    obtain ⟨i, hi, rfl⟩ := at_of_mem hm
    rw [drop_len] at hi
    rw [drop_at _ _ hi]
    exact ⟨mem_at (by omega), fun e' => by have := h.inj (i := i) (j := Q.tree.length - 1) (by omega) (by omega) (e'.trans he.symm); omega⟩
  · rintro ⟨hm, hne⟩
    obtain ⟨i, hi, rfl⟩ := at_of_mem hm
    have h1 : i < Q.tree.length - 1 := by
      by_cases h2 : i = Q.tree.length - 1
      · exact absurd (by rw [h2]; exact he) hne
      · omega
    have := mem_at (Q := Q.drop e) (i := i) (by rw [drop_len]; exact h1)
    rw [drop_at _ _ h1] at this; exact this
theorem Ok.drop (h : Q.Ok) {e : Nat} (h0 : 0 < Q.tree.length) (he : Q.at_ (Q.tree.length - 1) = e) : (Q.drop e).Ok := by
  refine ⟨fun i hi => ?_, fun i hi => ?_, fun f hf hmf => ?_⟩
  · rw [drop_len] at hi; show (Q.drop e).at_ i < Q.n; rw [drop_at _ _ hi]; exact h.lt i (by omega)
  · rw [drop_len] at hi
    rw [drop_at _ _ hi]
    show upN Q.pl e (-1) _ = _
    rw [upN_other _ _ (fun e' => by have := h.inj (i := i) (j := Q.tree.length - 1) (by omega) (by omega) (e'.trans he.symm); omega)]
    exact h.here i (by omega)
  · show upN Q.pl e (-1) f = -1
    by_cases hfe : f = e
    · rw [hfe, upN_same]
    · rw [upN_other _ _ hfe]; exact h.gone f hf fun hm => hmf ((drop_mem h h0 he).2 ⟨hm, hfe⟩)
/-- The root and the last one are exchanged, and the last one goes. -/
theorem Heap.popped (h : Q.Heap) (h0 : 0 < Q.tree.length) : ((Q.swap 0 (Q.tree.length - 1)).drop (Q.at_ 0)).HeapDn 0 := by
  refine ⟨fun i hi0 hi hne => ?_, fun _ _ _ _ hp => absurd hp (Nat.lt_irrefl 0)⟩
  rw [drop_len, swap_len] at hi
  have hi2 : i < (Q.swap 0 (Q.tree.length - 1)).tree.length - 1 := by rw [swap_len]; exact hi
  rw [drop_at _ _ hi2, drop_at _ _ (by rw [swap_len] at hi2 ⊢; omega)]
  show bef Q.act _ _ = false
  rw [swap_at h0 (by omega), swap_at h0 (by omega), if_neg (by omega), if_neg (by omega), if_neg (by omega), if_neg hne]
  exact h i hi0 (by omega)
/-- The search for the first of those below p: up to c, it is f. -/
structure Kid (Q : Qs) (p c f : Nat) : Prop where
  low : 2 * p + 1 ≤ c
  high : c ≤ 2 * p + 3
  fst : f = p ∨ (f < Q.tree.length ∧ 0 < f ∧ (f - 1) / 2 = p ∧ bef Q.act (Q.at_ f) (Q.at_ p) = true)
  all : ∀ j, 2 * p + 1 ≤ j → j < c → j < Q.tree.length → bef Q.act (Q.at_ j) (Q.at_ f) = false
theorem Kid.start (Q : Qs) (p : Nat) : Kid Q p (2 * p + 1) p := ⟨Nat.le_refl _, by omega, .inl rfl, fun j h1 h2 _ => by omega⟩
theorem Kid.yes {c f : Nat} (h : Kid Q p c f) (hc : c ≤ 2 * p + 2) (hl : c < Q.tree.length) (hb : bef Q.act (Q.at_ c) (Q.at_ f) = true) : Kid Q p (c + 1) c := by
  have h1 := h.low
  refine ⟨by omega, by omega, .inr ⟨hl, by omega, by omega, ?_⟩, fun j hj hjc hjl => ?_⟩
  · rcases h.fst with h2 | ⟨_, _, _, h2⟩
    · rw [← h2]; exact hb
    · exact bef_trans hb h2
  · by_cases h3 : j = c
    · subst h3; exact bef_self
    · exact bef_ntrans (h.all j hj (by omega) hjl) (bef_asymm hb)
theorem Kid.no {c f : Nat} (h : Kid Q p c f) (hc : c ≤ 2 * p + 2) (hb : bef Q.act (Q.at_ c) (Q.at_ f) = false) : Kid Q p (c + 1) f := by
  have h1 := h.low
  refine ⟨by omega, by omega, h.fst, fun j hj hjc hjl => ?_⟩
  by_cases h3 : j = c
  · subst h3; exact hb
  · exact h.all j hj (by omega) hjl
theorem Kid.done {c f : Nat} (h : Kid Q p c f) (hc : ¬ c ≤ 2 * p + 2 ∨ ¬ c < Q.tree.length) : ∀ i, 0 < i → i < Q.tree.length → (i - 1) / 2 = p → bef Q.act (Q.at_ i) (Q.at_ f) = false :=
  fun i h0 hi hp => h.all i (by omega) (by omega) hi
/-- The same elements, with the same activities. -/
structure Same (Q Q' : Qs) : Prop where
  n : Q'.n = Q.n
  act : Q'.act = Q.act
  len : Q'.tree.length = Q.tree.length
  mem : ∀ e, e ∈ Q'.tree ↔ e ∈ Q.tree
theorem Same.refl (Q : Qs) : Same Q Q := ⟨rfl, rfl, rfl, fun _ => Iff.rfl⟩
theorem Same.swap {Q0 : Qs} (h : Same Q0 Q) {o : Nat} (hp : p < Q.tree.length) (ho : o < Q.tree.length) : Same Q0 (Q.swap p o) :=
  ⟨h.n, h.act, (swap_len p o).trans h.len, fun e => (swap_mem hp ho e).trans (h.mem e)⟩
end
end Qs
end Go.Proofs.Ytfighepopmaimaa
