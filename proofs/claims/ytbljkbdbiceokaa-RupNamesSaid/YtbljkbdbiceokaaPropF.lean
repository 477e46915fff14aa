/-
  What the propagation's memory holds behind each kind of write.
-/
import Derived.Test.YtbljkbdbiceokaaPropE
namespace Go.Proofs.Ytbljkbdbiceokaa
open Go.RowKit Go.Lib
open Go.RowKit (Below)

theorem ownsRow_set {w : World} {B n cap g i size : Nat} {e : TypeId} {xs : List Value} {u : Value} (h : w.ownsRow B e size (.slice (some ⟨g, 0, none⟩) n cap) n xs) :
    (w.setCell ⟨g, i, none⟩ u).ownsRow B e size (.slice (some ⟨g, 0, none⟩) n cap) n (xs.set i u) := by
  obtain ⟨h1, h2⟩ := h
  refine ⟨by rw [List.length_set]; exact h1, .inr ?_⟩
  rcases h2 with ⟨h2, _⟩ | ⟨g', cap', cur, h2, h3, h4, h5, h6, h7, h8⟩
  · cases h2
  · cases h2
    refine ⟨g, cap, cur.setIfInBounds i u, rfl, h3, by simp [World.setCell, Array.getElem?_modify, h4], h5, h6, by simpa using h7, ?_⟩
    rw [Array.toList_setIfInBounds, List.take_set, h8]
theorem rowFree {w : World} {B n cap g size : Nat} {e : TypeId} {xs : List Value} (h : w.ownsRow B e size (.slice (some ⟨g, 0, none⟩) n cap) n xs) (i : Nat) : w.frozen? ⟨g, i, none⟩ = false := by
  rcases h.2 with ⟨h2, _⟩ | ⟨g', cap', cur, h2, h3, h4, _⟩
  · cases h2
  · cases h2; simp [World.frozen?, h4]
theorem rowCell {w : World} {B n cap g i size : Nat} {e : TypeId} {xs : List Value} {u : Value} (h : w.ownsRow B e size (.slice (some ⟨g, 0, none⟩) n cap) n xs) (hi : xs[i]? = some u) : w.cell? ⟨g, i, none⟩ = some u := by
  rcases h.2 with ⟨h2, _⟩ | ⟨g', cap', cur, h2, h3, h4, h5, h6, h7, h8⟩
  · cases h2
  · cases h2
    have hlt : i < xs.length := (List.getElem?_eq_some_iff.1 hi).1
    have h9 := congrArg (fun l : List Value => l[i]?) h8
    simp only [List.getElem?_take] at h9
    rw [if_pos (by rw [← h.1]; exact hlt), hi] at h9
    simp only [Array.getElem?_toList] at h9
    simp [World.cell?, h4, h9]

theorem pot_set (l : List Cl) (n : Nat) (e e' : Cl) (h : l[n]? = some e) : potC (l.set n e') + e.rest.length = potC l + e'.rest.length := by
  induction l generalizing n with
  | nil => simp at h
  | cons x l ih =>
    cases n with
    | zero => simp at h; subst h; simp [potC]; omega
    | succ n => simp at h; have := ih n h; simp [potC] at this ⊢; omega
theorem pot_snoc (l : List Cl) (e : Cl) : potC (l ++ [e]) = potC l + e.rest.length := by simp [potC]

section
variable {B : Nat} {m : Mm} {f : Int → Value} {cv : Value} {N s r : Nat} {vs : List Value} {S : St} {w w' : World}

theorem PR.more (h : PR B m f cv N s r vs S w) {T : Nat} (hT : N + potC S.cls ≤ T) : PR B { m with T := T } f cv N s r vs S w :=
  ⟨h.hp, h.hk, h.hq, h.hm, h.d1, h.d2, h.d3, h.d4, h.d5, h.d6, h.blk, h.kn, h.klen, h.chan, h.map, hT, h.wlen, h.rows, h.apart, h.off, h.cls, h.cvs, h.coff⟩

/-- One more index in one list of the map. -/
theorem PR.mapPut (h : PR B m f cv N s r vs S w) {w0 w1 w2 : World} (hb : Below w.heap.size w w0) {y x : Int} {v' : Value}
    (hown : w1.ownsRow B 3 1 v' ((S.watch y).length + 1) ((S.watch y).map (Value.int .i64) ++ [.int .i64 x])) (hg : w0.grownBy w1 (f y).ownBlock) (hat : (f y).ownBlock = v'.ownBlock ∨ ∃ g, v'.ownBlock = some g ∧ w.heap.size ≤ g)
    (hm2 : MapIs Try.prog w2 m.mb (N + 1) nilS (fun z => if z = y then v' else f z)) (hg2 : w1.grownBy w2 (some m.mb)) (hT : N + 1 + potC S.cls ≤ m.T) :
    PR B m (fun z => if z = y then v' else f z) cv (N + 1) s r vs { S with watch := upd S.watch y (S.watch y ++ [x]) } w2 ∧ Below B w w2 := by
  have hs0 : w.heap.size ≤ w0.heap.size := hb.size
  have hs1 : w.heap.size ≤ w1.heap.size := Nat.le_trans hs0 hg.size
  have hs2 : w.heap.size ≤ w2.heap.size := Nat.le_trans hs1 hg2.size
  have hst1 : ∀ k, k < w.heap.size → (f y).ownBlock ≠ some k → w1.heap[k]? = w.heap[k]? := fun k hk hf => (hg.block k (Nat.lt_of_lt_of_le hk hs0) (fun e => hf e.symm)).trans (hb.block k hk)
  have hst : ∀ k, k < w.heap.size → k ≠ m.mb → (f y).ownBlock ≠ some k → w2.heap[k]? = w.heap[k]? := fun k hk hm hf => (hg2.block k (Nat.lt_of_lt_of_le hk hs1) (fun e => hm (by injection e))).trans (hst1 k hk hf)
  have hfy : ∀ k, (∀ g, (f y).ownBlock = some g → g ≠ k) → (f y).ownBlock ≠ some k := fun k h e => h k e rfl
  have hpb := h.blk.lt
  have hkb := h.kn.lt
  have hqb := (Array.getElem?_eq_some_iff.1 h.chan).1
  have hmb := h.map.lt
  have hv' : ∀ g, v'.ownBlock = some g → (f y).ownBlock = some g ∨ w.heap.size ≤ g := fun g hg' => by
    rcases hat with h1 | ⟨g', h1, h2⟩
    · exact .inl (by rw [h1]; exact hg')
    · rw [h1] at hg'; cases hg'; exact .inr h2
  have hlow : ∀ g, g < B → (f y).ownBlock ≠ some g := fun g hg' e => by have := ((h.rows y).lt g e).1; omega
  refine ⟨⟨h.hp, h.hk, h.hq, h.hm, h.d1, h.d2, h.d3, h.d4, h.d5, h.d6, h.blk.of (hst _ hpb h.d3 (hfy _ fun g hg => (h.off y g hg).1)), h.kn.of (hst _ hkb h.d5 (hfy _ fun g hg => (h.off y g hg).2.1)), h.klen,
    (hst _ hqb h.d6 (hfy _ fun g hg => (h.off y g hg).2.2.1)).trans h.chan, hm2, hT, fun l => ?_, fun l => ?_, fun l l' g hl hl' => ?_, fun l g hl => ?_, ?_, fun j e he => ?_, h.coff⟩, ?_⟩
  · dsimp only
    by_cases hl : l = y
    · subst hl; rw [upd_same]; have := h.wlen l; simp; omega
    · rw [upd_other _ _ hl]; have := h.wlen l; omega
  · dsimp only
    by_cases hl : l = y
    · subst hl
      rw [upd_same, if_pos rfl, List.length_append, List.map_append]
      refine rowStays hown fun g hg' hB => ?_
      refine hg2.block g (hown.lt g hg').2 fun e => ?_
      injection e with e
      rcases hv' g hg' with h1 | h1
      · exact (h.off l g h1).2.2.2.1 e
      · omega
    · rw [upd_other _ _ hl, if_neg hl]
      refine rowStays (h.rows l) fun g hg' hB => ?_
      exact hst g ((h.rows l).lt g hg').2 (h.off l g hg').2.2.2.1 fun e => hl (h.apart l y g hg' e)
  · by_cases hly : l = y <;> by_cases hly' : l' = y
    · rw [hly, hly']
    · subst hly
      simp only [if_pos] at hl
      simp only [if_neg hly'] at hl'
      rcases hv' g hl with h1 | h1
      · exact h.apart l l' g h1 hl'
      · have := ((h.rows l').lt g hl').2; omega
    · subst hly'
      simp only [if_pos] at hl'
      simp only [if_neg hly] at hl
      rcases hv' g hl' with h1 | h1
      · exact h.apart l l' g hl h1
      · have := ((h.rows l).lt g hl).2; omega
    · simp only [if_neg hly] at hl
      simp only [if_neg hly'] at hl'
      exact h.apart l l' g hl hl'
  · by_cases hly : l = y
    · subst hly
      simp only [if_pos] at hl
      rcases hv' g hl with h1 | h1
      · exact h.off l g h1
      · refine ⟨by omega, by omega, by omega, by omega, fun e => ?_⟩
        have := (h.cls.lt g e).2; omega
    · simp only [if_neg hly] at hl
      exact h.off l g hl
  · exact rowStays h.cls fun g hg' _ => hst g (h.cls.lt g hg').2 (h.coff g hg').2.2.2 fun e => (h.off y g e).2.2.2.2 hg'
  · exact (h.cvs j e he).stays hs2 fun g hg' hlt => hst g hlt (by have := h.hm; omega) (hlow g hg')
  · have hB : B ≤ w.heap.size := by have := h.hp; omega
    have h1 : Below B w w0 := hb.mono hB
    have h2 := h1.grown hg (Nat.le_trans hB hs0) (fun j hj => ((h.rows y).lt j hj).1)
    exact h2.grown hg2 (Nat.le_trans hB hs1) (fun j hj => by injection hj with hj; have := h.hm; omega)

/-- One more clause. -/
theorem PR.clPut (h : PR B m f cv N s r vs S w) {w0 w1 : World} (hb : Below w.heap.size w w0) {e : Cl} {a : Option Addr} {c : Nat} {g cap : Nat}
    (hown : w1.ownsRow B 113 3 (.slice (some ⟨g, 0, none⟩) (S.cls.length + 1) cap) (S.cls.length + 1) (vs ++ [.int .i64 e.a, .int .i64 e.b, .slice a e.rest.length c])) (hg : w0.grownBy w1 cv.ownBlock) (hat : cv.ownBlock = some g ∨ w.heap.size ≤ g)
    (hi : IntsR w a e.rest) (hp : ∀ p, a = some p → p.block < B ∧ p.block < w.heap.size) (hc : e.rest.length ≤ c) (hc2 : c ≤ maxLen) (hT : N + potC (S.cls ++ [e]) ≤ m.T) :
    PR B m f (.slice (some ⟨g, 0, none⟩) (S.cls.length + 1) cap) N s r (vs ++ [.int .i64 e.a, .int .i64 e.b, .slice a e.rest.length c]) { S with cls := S.cls ++ [e] } (w1.setCell ⟨m.pb, 3, none⟩ (.slice (some ⟨g, 0, none⟩) (S.cls.length + 1) cap)) ∧
      Below B w (w1.setCell ⟨m.pb, 3, none⟩ (.slice (some ⟨g, 0, none⟩) (S.cls.length + 1) cap)) := by
  have hs0 : w.heap.size ≤ w0.heap.size := hb.size
  have hs1 : w.heap.size ≤ w1.heap.size := Nat.le_trans hs0 hg.size
  generalize hv' : Value.slice (some ⟨g, 0, none⟩) (S.cls.length + 1) cap = v' at *
  have hvb : v'.ownBlock = some g := by rw [← hv']; rfl
  generalize hw2 : w1.setCell ⟨m.pb, 3, none⟩ v' = w2
  have hs2 : w2.heap.size = w1.heap.size := by rw [← hw2]; simp
  have hst1 : ∀ k, k < w.heap.size → cv.ownBlock ≠ some k → w1.heap[k]? = w.heap[k]? := fun k hk hf => (hg.block k (Nat.lt_of_lt_of_le hk hs0) (fun e => hf e.symm)).trans (hb.block k hk)
  have hst2 : ∀ k, k ≠ m.pb → w2.heap[k]? = w1.heap[k]? := fun k hk => by rw [← hw2]; exact setCell_block w1 _ _ hk
  have hst : ∀ k, k < w.heap.size → k ≠ m.pb → cv.ownBlock ≠ some k → w2.heap[k]? = w.heap[k]? := fun k hk hm hf => (hst2 k hm).trans (hst1 k hk hf)
  have hfy : ∀ k, (∀ g, cv.ownBlock = some g → g ≠ k) → cv.ownBlock ≠ some k := fun k h e => h k e rfl
  have hpb := h.blk.lt
  have hkb := h.kn.lt
  have hqb := (Array.getElem?_eq_some_iff.1 h.chan).1
  have hmb := h.map.lt
  have hlow : ∀ g, g < B → cv.ownBlock ≠ some g := fun g hg' e => by have := (h.cls.lt g e).1; omega
  have hgo : ∀ k, k < w.heap.size → cv.ownBlock ≠ some k → g ≠ k := fun k hk hf e => by
    rcases hat with h1 | h1
    · exact hf (by rw [h1, e])
    · omega
  refine ⟨⟨h.hp, h.hk, h.hq, h.hm, h.d1, h.d2, h.d3, h.d4, h.d5, h.d6, ?_, h.kn.of (hst _ hkb (Ne.symm h.d1) (hfy _ fun g hg => (h.coff g hg).2.1)), h.klen,
    (hst _ hqb (Ne.symm h.d2) (hfy _ fun g hg => (h.coff g hg).2.2.1)).trans h.chan, h.map.of (hst _ hmb (Ne.symm h.d3) (hfy _ fun g hg => (h.coff g hg).2.2.2)), hT, h.wlen, fun l => ?_, h.apart, fun l g' hl => ?_, ?_, fun j e' he => ?_, fun g' hg' => ?_⟩, ?_⟩
  · have h1 : Blk w1 m.pb _ _ := h.blk.of (hst1 _ hpb (hfy _ fun g hg => (h.coff g hg).1))
    have h2 := h1.set 3 v'
    rw [hw2] at h2
    exact h2
  · exact rowStays (h.rows l) fun g' hg' _ => hst g' ((h.rows l).lt g' hg').2 (h.off l g' hg').1 (h.off l g' hg').2.2.2.2
  · obtain ⟨h1, h2, h3, h4, h5⟩ := h.off l g' hl
    refine ⟨h1, h2, h3, h4, ?_⟩
    rw [hvb]
    intro e
    injection e with e
    exact hgo g' ((h.rows l).lt g' hl).2 h5 e
  · simp only [List.length_append, List.length_cons, List.length_nil, Nat.zero_add]
    refine rowStays hown fun g' hg' _ => hst2 g' ?_
    rw [hvb] at hg'; injection hg' with hg'
    rw [← hg']
    exact hgo m.pb hpb (hfy _ fun g hg => (h.coff g hg).1)
  · have hvl : vs.length = S.cls.length * 3 := h.cls.1
    rcases (getElem?_snoc _ _ _ _).1 he with h1 | ⟨h1, h2⟩
    · have hlt : j < S.cls.length := (List.getElem?_eq_some_iff.1 h1).1
      obtain ⟨a', c', h2, h3, h4, h5, h6, h7, h8⟩ := (h.cvs j e' h1).stays (w' := w2) (by omega) fun g' hg' hlt => hst g' hlt (by have := h.hp; omega) (hlow g' hg')
      exact ⟨a', c', by rw [List.getElem?_append_left (by omega)]; exact h2, by rw [List.getElem?_append_left (by omega)]; exact h3, by rw [List.getElem?_append_left (by omega)]; exact h4, h5, h6, h7, h8⟩
    · subst h1; subst h2
      have hk : ∀ k, (vs ++ [Value.int .i64 e'.a, .int .i64 e'.b, .slice a e'.rest.length c])[S.cls.length * 3 + k]? = [Value.int .i64 e'.a, .int .i64 e'.b, .slice a e'.rest.length c][k]? := fun k => by
        rw [List.getElem?_append_right (by omega), hvl, Nat.add_sub_cancel_left]
      refine ⟨a, c, hk 0, hk 1, hk 2, hi.stays (by omega) fun p hp' => ?_, fun p hp' => ⟨(hp p hp').1, by have := (hp p hp').2; omega⟩, hc, hc2⟩
      obtain ⟨h1, h2⟩ := hp p hp'
      exact hst _ h2 (by have := h.hp; omega) (hlow _ h1)
  · rw [hvb] at hg'; injection hg' with hg'
    rw [← hg']
    exact ⟨hgo _ hpb (hfy _ fun g hg => (h.coff g hg).1), hgo _ hkb (hfy _ fun g hg => (h.coff g hg).2.1), hgo _ hqb (hfy _ fun g hg => (h.coff g hg).2.2.1), hgo _ hmb (hfy _ fun g hg => (h.coff g hg).2.2.2)⟩
  · have hB : B ≤ w.heap.size := by have := h.hp; omega
    have h1 : Below B w w0 := hb.mono hB
    have h2 := h1.grown hg (Nat.le_trans hB hs0) (fun j hj => (h.cls.lt j hj).1)
    rw [← hw2]
    exact h2.setCell h.hp _

/-- One cell of a clause. -/
theorem PR.clSet {g L cap : Nat} (h : PR B m f (.slice (some ⟨g, 0, none⟩) L cap) N s r vs S w) {n k : Nat} {e e' : Cl} (hn : S.cls[n]? = some e) (hk : k < 3) (u : Value) (hl : e'.rest.length ≤ e.rest.length) (hcl : ClR w B (vs.set (n * 3 + k) u) n e') :
    PR B m f (.slice (some ⟨g, 0, none⟩) L cap) N s r (vs.set (n * 3 + k) u) { S with cls := S.cls.set n e' } (w.setCell ⟨g, n * 3 + k, none⟩ u) ∧ Below B w (w.setCell ⟨g, n * 3 + k, none⟩ u) := by
  have hlt : n < S.cls.length := (List.getElem?_eq_some_iff.1 hn).1
  obtain ⟨hg1, hg2⟩ := h.cls.lt g rfl
  obtain ⟨o1, o2, o3, o4⟩ := h.coff g rfl
  have hvl : vs.length = S.cls.length * 3 := h.cls.1
  have hst : ∀ b, b ≠ g → (w.setCell ⟨g, n * 3 + k, none⟩ u).heap[b]? = w.heap[b]? := fun b hb => setCell_block w _ _ hb
  have hL : L = S.cls.length := by
    rcases h.cls.2 with ⟨h2, _⟩ | ⟨g', cap', cur, h2, _⟩
    · cases h2
    · cases h2; rfl
  subst hL
  refine ⟨⟨h.hp, h.hk, h.hq, h.hm, h.d1, h.d2, h.d3, h.d4, h.d5, h.d6, h.blk.of (hst _ (Ne.symm o1)), h.kn.of (hst _ (Ne.symm o2)), h.klen, (hst _ (Ne.symm o3)).trans h.chan, h.map.of (hst _ (Ne.symm o4)), ?_, h.wlen,
    fun l => rowStays (h.rows l) fun b hb _ => hst b (fun e => (h.off l b hb).2.2.2.2 (by rw [e]; rfl)), h.apart, h.off, ?_, fun j e1 he => ?_, h.coff⟩, (Below.refl B w).setCell hg1 _⟩
  · have := pot_set S.cls n e e' hn; have := h.pot; dsimp only; omega
  · dsimp only; rw [List.length_set]; exact ownsRow_set h.cls
  · rcases getElem?_setC _ _ _ _ _ he with ⟨rfl, rfl⟩ | ⟨hj, h1⟩
    · exact hcl.stays (by simp) fun b hb _ => hst b (by omega)
    · obtain ⟨a', c', h2, h3, h4, h5, h6, h7, h8⟩ := (h.cvs j e1 h1).stays (w' := w.setCell ⟨g, n * 3 + k, none⟩ u) (by simp) fun b hb _ => hst b (by omega)
      exact ⟨a', c', by rw [List.getElem?_set_ne (by omega)]; exact h2, by rw [List.getElem?_set_ne (by omega)]; exact h3, by rw [List.getElem?_set_ne (by omega)]; exact h4, h5, h6, h7, h8⟩
end
end Go.Proofs.Ytbljkbdbiceokaa
