/-
  What is popped until the heap is empty: each once, in order; slices of bools of the call's own.
-/
import Derived.Test.YtfighepopmaimaaOrdL
namespace Go.Proofs.Ytfighepopmaimaa
open Go.RowKit Go.Lib
open Go.RowKit (Below)

namespace Hs
theorem popL_succ (k : Nat) (A : Hs) : popL (k + 1) A = match A.best with | none => [] | some e => e :: popL k A.popA := rfl
theorem popL_trunc : ∀ (m : Nat) (A : Hs), popL (popL m A).length A = popL m A
  | 0, _ => rfl
  | m + 1, A => by
    rw [popL_succ]
    cases hb : A.best with
    | none => rfl
    | some e =>
      dsimp only
      rw [List.length_cons, popL_succ, hb]
      dsimp only
      rw [popL_trunc m A.popA]
theorem popL_end : ∀ (m : Nat) (A : Hs), (popL m A).length < m → (after (popL m A).length A).best = none
  | 0, _, h => absurd h (Nat.not_lt_zero _)
  | m + 1, A, h => by
    rw [popL_succ] at h ⊢
    cases hb : A.best with
    | none => rw [hb] at h; exact hb
    | some e =>
      rw [hb] at h
      dsimp only at h ⊢
      rw [List.length_cons]
      show (after (popL m A.popA).length A.popA).best = none
      exact popL_end m A.popA (by simpa using h)
theorem cnt_zero {A : Hs} (h : A.best = none) : A.cnt A.n = 0 := by
  unfold cnt
  rw [List.length_eq_zero_iff, List.filter_eq_nil_iff]
  intro e he
  have := bestN_none.1 h e (List.mem_range.1 he)
  rw [this]; decide
theorem best_cnt {A : Hs} (h : A.cnt A.n = 0) : A.best = none := by
  refine bestN_none.2 fun e he => ?_
  unfold cnt at h
  rw [List.length_eq_zero_iff, List.filter_eq_nil_iff] at h
  simpa using h e (List.mem_range.2 he)
theorem popAll_end (A : Hs) : A.emptied.best = none ∧ (popAll A).length = A.cnt A.n := by
  have hl : (popL (popAll A).length A).length = (popAll A).length := by
    have := popL_trunc A.n A
    exact congrArg List.length this
  have hc := cnt_after _ A hl
  have hb : A.emptied.best = none := by
    rcases Nat.lt_or_ge (popAll A).length A.n with h | h
    · exact popL_end A.n A h
    · refine best_cnt ?_
      have h2 := cnt_le A A.n
      have h3 : A.emptied.n = A.n := after_n _ _
      rw [h3]
      show (after (popAll A).length A).cnt A.n = 0
      omega
  refine ⟨hb, ?_⟩
  have h3 : A.emptied.n = A.n := after_n _ _
  have h4 := cnt_zero hb
  rw [h3] at h4
  have : (after (popAll A).length A).cnt A.n = 0 := h4
  omega
theorem emptied_len (A : Hs) : A.emptied.lenN = 0 := by
  unfold lenN; rw [cnt_zero (popAll_end A).1]; rfl
theorem popA_inn {A : Hs} {e : Nat} (h : A.best = some e) : A.popA = { A with inn := upN A.inn e false } := by unfold popA; rw [h]
theorem popL_mem : ∀ (k : Nat) (A : Hs) (f : Nat), f ∈ popL k A → f < A.n ∧ A.inn f = true
  | 0, _, _, h => by cases h
  | k + 1, A, f, h => by
    rw [popL_succ] at h
    cases hb : A.best with
    | none => rw [hb] at h; cases h
    | some e =>
      rw [hb] at h
      rcases List.mem_cons.1 h with h1 | h1
      · subst h1; exact bestN_some hb
      · obtain ⟨h2, h3⟩ := popL_mem k A.popA f h1
        rw [popA_inn hb] at h2 h3
        refine ⟨h2, ?_⟩
        change upN A.inn e false f = true at h3
        unfold upN at h3
        split at h3
        · cases h3
        · exact h3
theorem popL_gone {k : Nat} {A : Hs} {e : Nat} (hb : A.best = some e) : e ∉ popL k A.popA := fun h => by
  have h1 := (popL_mem k A.popA e h).2
  rw [popA_inn hb] at h1
  change upN A.inn e false e = true at h1
  rw [upN_same] at h1; cases h1
theorem popL_nodup : ∀ (k : Nat) (A : Hs), (popL k A).Nodup
  | 0, _ => List.nodup_nil
  | k + 1, A => by
    rw [popL_succ]
    cases hb : A.best with
    | none => exact List.nodup_nil
    | some e => exact List.nodup_cons.2 ⟨popL_gone hb, popL_nodup k A.popA⟩
theorem popA_act (A : Hs) : A.popA.act = A.act := by unfold popA; cases A.best <;> rfl
theorem popL_chain : ∀ (k : Nat) (A : Hs) (i d e : Nat), (popL k A)[i]? = some d → (popL k A)[i + 1]? = some e → bef A.act d e = true
  | 0, _, _, _, _, h, _ => by simp [popL] at h
  | k + 1, A, i, d, e, h1, h2 => by
    rw [popL_succ] at h1 h2
    cases hb : A.best with
    | none => rw [hb] at h1; simp at h1
    | some b =>
      rw [hb] at h1 h2
      dsimp only at h1 h2
      cases i with
      | succ i =>
        rw [List.getElem?_cons_succ] at h1 h2
        have := popL_chain k A.popA i d e h1 h2
        rw [popA_act] at this; exact this
      | zero =>
        rw [List.getElem?_cons_zero] at h1
        rw [List.getElem?_cons_succ] at h2
        injection h1 with h1
        subst h1
        have hm := List.mem_of_getElem? h2
        obtain ⟨h3, h4⟩ := popL_mem k A.popA e hm
        have hne : e ≠ b := fun h => popL_gone hb (h ▸ hm)
        rw [popA_inn hb] at h3 h4
        refine bestN_before hb e h3 ?_ hne
        change upN A.inn b false e = true at h4
        rw [upN_other _ _ hne] at h4; exact h4
end Hs
theorem made_cnt (zs : List Int) : (madeA zs).cnt zs.length = zs.length := by
  unfold Hs.cnt
  have h : (List.range zs.length).filter (madeA zs).inn = List.range zs.length := List.filter_eq_self.2 (fun e _ => rfl)
  rw [h, List.length_range]
theorem made_len (zs : List Int) : (listOf (madeA zs)).length = zs.length := by
  unfold listOf
  rw [List.length_map, (Hs.popAll_end _).2]; exact made_cnt zs
/-- What is popped, by place. -/
theorem listOf_at {A : Hs} {i : Nat} (h : i < (listOf A).length) : ∃ e, (Hs.popAll A)[i]? = some e ∧ (listOf A).getD i 0 = (e : Int) + 1 ∧ e < A.n := by
  unfold listOf at h
  rw [List.length_map] at h
  refine ⟨(Hs.popAll A)[i], List.getElem?_eq_getElem h, ?_, (Hs.popL_mem A.n A _ (List.getElem_mem h)).1⟩
  unfold listOf
  rw [List.getD_eq_getElem?_getD, List.getElem?_map, List.getElem?_eq_getElem h]; rfl

/-! Bools. -/
def boolC (f : Nat → Bool) (n : Nat) : List Value := (List.range n).map fun j => .bool (f j)
theorem boolC_len (f : Nat → Bool) (n : Nat) : (boolC f n).length = n := by simp [boolC]
theorem boolC_at (f : Nat → Bool) {n e : Nat} (h : e < n) : (boolC f n)[e]? = some (.bool (f e)) := by
  unfold boolC; rw [List.getElem?_map, List.getElem?_range h]; rfl
theorem boolC_set (f : Nat → Bool) (n e : Nat) (x : Bool) : (boolC f n).set e (.bool x) = boolC (upN f e x) n := by
  unfold boolC
  exact range_map_set _ _ _ _ _ (fun _ => by rw [upN_same]) (fun j hj => by rw [upN_other _ _ hj])
theorem boolC_made (n : Nat) : (madeCells #[.bool false] n).toList = boolC (fun _ => false) n := by
  have h := toList_madeCells_one (Value.bool false) n
  rw [h]; unfold boolC
  refine List.ext_getElem? fun i => ?_
  rw [List.getElem?_replicate, List.getElem?_map]
  by_cases hi : i < n
  · rw [if_pos hi, List.getElem?_range hi]; rfl
  · rw [if_neg hi, List.getElem?_eq_none (by simp; omega)]; rfl
theorem Try.infoBool : (Try.prog.info? 4).map (fun i => (i.zero, i.size, i.bytes)) = some (some (.bool false), 1, 1) := by kernel_rfl
def BS (g n c : Nat) (f : Nat → Bool) : Ast := fun fs w => fs = [g] ∧ Row w 4 1 g n c (boolC f n)
theorem BS.loc (g n c : Nat) (f : Nat → Bool) : Loc (BS g n c f) := ⟨fun fs w w' h hb => ⟨h.1, h.2.of (hb g (by rw [h.1]; simp))⟩, fun fs w h b hb => by rw [h.1] at hb; simp at hb; subst hb; exact h.2.lt⟩
section
variable {W w : World} {ps : List Ast} {i g n c : Nat} {f : Nat → Bool}
theorem St.bools (h : St W ps w) (hi : ps[i]? = some (BS g n c f)) {e : Nat} (he : e < n) : w.cell? ⟨g, e, none⟩ = some (.bool (f e)) ∧ w.frozen? ⟨g, e, none⟩ = false := by
  obtain ⟨fs, h1⟩ := h.get hi
  exact ⟨h1.2.cell (boolC_at f he), h1.2.free e⟩
theorem St.boolSet (h : St W ps w) (hi : ps[i]? = some (BS g n c f)) (e : Nat) (x : Bool) : St W (ps.set i (BS g n c (upN f e x))) (w.setCell ⟨g, e, none⟩ (.bool x)) := by
  obtain ⟨fs, h1, h2⟩ := h.step hi (BS.loc g n c (upN f e x))
  refine h2 _ ⟨fs, ⟨h1.1, ?_⟩, Touch.setCell _ (by rw [h1.1]; simp), fun b hb => .inl hb⟩
  have := h1.2.set e (.bool x)
  rw [boolC_set] at this; exact this
theorem St.boolMade (h : St W ps w) (n : Nat) (hn : n ≤ 1000000) : St W (ps ++ [BS w.heap.size n n fun _ => false]) (w.alloc (.cells (madeCells #[.bool false] n) 4)) := by
  refine h.more (fs := [w.heap.size]) ⟨rfl, ?_⟩ (BS.loc _ _ _ _) (boxed w _) (fun b hb => by simp at hb; omega)
  have h9 := Row.made (e := 4) (size := 1) w (madeCells #[.bool false] n).toList n (by unfold maxLen; omega) (by rw [Array.length_toList, size_madeCells]; omega)
  rw [Array.toArray_toList, boolC_made] at h9; exact h9
end

/-! Pops one by one. -/
theorem popL_best : ∀ (m : Nat) (A : Hs) (i e : Nat), (Hs.popL m A)[i]? = some e → (A.after i).best = some e
  | 0, _, _, _, h => by simp [Hs.popL] at h
  | m + 1, A, i, e, h => by
    rw [Hs.popL_succ] at h
    cases hb : A.best with
    | none => rw [hb] at h; simp at h
    | some b =>
      rw [hb] at h
      dsimp only at h
      cases i with
      | zero => rw [List.getElem?_cons_zero] at h; rw [← h]; exact hb
      | succ i => rw [List.getElem?_cons_succ] at h; exact popL_best m A.popA i e h
theorem popL_pre (m : Nat) (A : Hs) : ∀ i, i ≤ (Hs.popL m A).length → (Hs.popL i A).length = i := by
  intro i
  induction i with
  | zero => intro _; rfl
  | succ i ih =>
    intro h
    have h1 := ih (by omega)
    have h2 := Hs.popL_more i A h1 _ (popL_best m A i _ (List.getElem?_eq_getElem h))
    rw [h2, List.length_append, h1]; rfl
theorem lenN_after {A : Hs} {i : Nat} (hi : i ≤ (Hs.popAll A).length) : (A.after i).lenN = (A.cnt A.n : Int) - (i : Int) := by
  have h1 := Hs.cnt_after i A (popL_pre A.n A i hi)
  unfold Hs.lenN
  rw [Hs.after_n]
  omega
/-- Is an element in it, behind i pops? -/
theorem after_inn : ∀ (i : Nat) (A : Hs) (m : Nat), i ≤ (Hs.popL m A).length → ∀ f, (A.after i).inn f = (A.inn f && decide (f ∉ (Hs.popL m A).take i))
  | 0, A, m, _, f => by show A.inn f = _; simp
  | i + 1, A, m, hi, f => by
    cases m with
    | zero => simp [Hs.popL] at hi
    | succ m =>
      rw [Hs.popL_succ] at hi ⊢
      cases hb : A.best with
      | none => rw [hb] at hi; simp at hi
      | some e =>
        rw [hb] at hi
        dsimp only at hi ⊢
        have ih := after_inn i A.popA m (by simpa using hi) f
        show (A.popA.after i).inn f = _
        rw [ih, Hs.popA_inn hb]
        show (upN A.inn e false f && _) = _
        rw [List.take_succ_cons]
        by_cases hf : f = e
        · subst hf; rw [upN_same]; simp
        · rw [upN_other _ _ hf]; simp [hf]
theorem St.append {W w w1 : World} {ps : List Ast} {i : Nat} {v v' : Value} {zs : List Int} {x : Int} {o : Obj} (h : St W ps w) (hi : ps[i]? = some (LS v zs))
    (hown : w1.ownsRow 0 3 1 v' (zs.length + 1) (zs.map (Value.int .i64) ++ [.int .i64 x])) (hg : (w.alloc o).grownBy w1 v.ownBlock) (hat : v'.ownBlock = v.ownBlock ∨ v'.ownBlock = some (w.heap.size + 1)) : St W (ps.set i (LS v' (zs ++ [x]))) w1 := by
  obtain ⟨fs, h1, h2⟩ := h.step hi (LS.loc v' (zs ++ [x]))
  have hs : w.heap.size + 1 ≤ w1.heap.size := by have := hg.size; simpa using this
  refine h2 _ ⟨v'.ownBlock.toList, ⟨rfl, by rw [List.length_append, List.map_append]; exact hown⟩, ⟨hg.os, hg.tape, hg.output, by omega, fun b hb hf => ?_⟩, fun g hg2 => ?_⟩
  · rw [h1.1] at hf
    exact (hg.block b (by simp; omega) (fun e => hf (by rw [← e]; simp))).trans (Below.heap_alloc w o b hb)
  · rw [h1.1]
    rcases hat with h3 | h3
    · left; rw [← h3]; exact hg2
    · right; rw [h3] at hg2; simp at hg2; omega
theorem St.rowOf {W w : World} {ps : List Ast} {i : Nat} {v : Value} {zs : List Int} (h : St W ps w) (hi : ps[i]? = some (LS v zs)) (o : Obj) : (w.alloc o).ownsRow 0 3 1 v zs.length (zs.map (Value.int .i64)) := by
  obtain ⟨fs, h1⟩ := h.get hi
  exact World.ownsRow.alloc h1.2 o
theorem St.nilList {W w : World} {ps : List Ast} (h : St W ps w) : St W (ps ++ [LS (.slice none 0 0) []]) w :=
  h.more (fs := []) ⟨rfl, World.ownsRow_nil _ _ _ _⟩ (LS.loc _ _) (Below.refl _ _) (fun b hb => by cases hb)
end Go.Proofs.Ytfighepopmaimaa
