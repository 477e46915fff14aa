/-
  Slices of slices that a call builds by append; what Fit makes of lists of small numbers, in plain words.
-/
import Derived.Test.YtbljkbdbiceokaaCnfD
import Derived.Maps.AppendAt
import Derived.Lib.SmallJoins
namespace Go.Proofs.Ytbljkbdbiceokaa
open Go.RowKit Go.Lib
open Go.RowKit (Below)

/-- A row of integers that lies in memory of the call's own, apart from the block of v. -/
def InRow (w : World) (B : Nat) (v u : Value) (z : List Int) : Prop := ∃ a c, u = .slice a z.length c ∧ IntsR w a z ∧ (∀ p, a = some p → B ≤ p.block ∧ p.block < w.heap.size ∧ v.ownBlock ≠ some p.block) ∧ z.length ≤ c ∧ c ≤ maxLen
/-- A slice of slices of the call's own, built by append. -/
def Built (w : World) (B : Nat) (v : Value) (zss : List (List Int)) : Prop := ∃ vs : List Value, w.ownsRow B 23 1 v zss.length vs ∧ ∀ (j : Nat) (z : List Int), zss[j]? = some z → ∃ u : Value, vs[j]? = some u ∧ InRow w B v u z

theorem IntsR.stays {w w' : World} {a : Option Addr} {z : List Int} (h : IntsR w a z) (hs : w.heap.size ≤ w'.heap.size) (hb : ∀ p : Addr, a = some p → w'.heap[p.block]? = w.heap[p.block]?) : IntsR w' a z := by
  rcases h with h | ⟨b, off, ha, hsz, hc⟩
  · exact .inl h
  · exact .inr ⟨b, off, ha, Nat.lt_of_lt_of_le hsz hs, fun j hj => (World.cell?_of_block (a := ⟨b, off + j, none⟩) (hb ⟨b, off, none⟩ ha)).trans (hc j hj)⟩
theorem InRow.stays {w w' : World} {B : Nat} {v u : Value} {z : List Int} (h : InRow w B v u z) (hs : w.heap.size ≤ w'.heap.size) (hb : ∀ k, B ≤ k → k < w.heap.size → v.ownBlock ≠ some k → w'.heap[k]? = w.heap[k]?) : InRow w' B v u z := by
  obtain ⟨a, c, hu, hi, hp, hcc⟩ := h
  refine ⟨a, c, hu, hi.stays hs (fun p hp' => ?_), (fun p hp' => ?_), hcc⟩
  · obtain ⟨h1, h2, h3⟩ := hp p hp'; exact hb _ h1 h2 h3
  · obtain ⟨h1, h2, h3⟩ := hp p hp'; exact ⟨h1, by omega, h3⟩
theorem ownsRow_stays {w w' : World} {B n : Nat} {e : TypeId} {v : Value} {xs : List Value} (h : w.ownsRow B e 1 v n xs) (hb : ∀ k, B ≤ k → k < w.heap.size → w'.heap[k]? = w.heap[k]?) : w'.ownsRow B e 1 v n xs := by
  refine ⟨h.1, ?_⟩
  rcases h.2 with h2 | ⟨g, cap, cur, h1, h2, h3, h4⟩
  · exact .inl h2
  · exact .inr ⟨g, cap, cur, h1, h2, (hb g h2 (Array.getElem?_eq_some_iff.1 h3).1).trans h3, h4⟩
theorem Built.stays {w w' : World} {B : Nat} {v : Value} {zss : List (List Int)} (h : Built w B v zss) (hs : w.heap.size ≤ w'.heap.size) (hb : ∀ k, B ≤ k → k < w.heap.size → w'.heap[k]? = w.heap[k]?) : Built w' B v zss := by
  obtain ⟨vs, h1, h2⟩ := h
  refine ⟨vs, ownsRow_stays h1 hb, fun j z hz => ?_⟩
  obtain ⟨u, hu, hi⟩ := h2 j z hz
  exact ⟨u, hu, hi.stays hs fun k h1 h2 _ => hb k h1 h2⟩
theorem Own.quiet {w w' : World} {B : Nat} {v : Value} {z : List Int} (h : Own w B v z) (hq : QuietTo w w') : Own w' B v z := ownsRow_stays h fun k _ hk => (quietBelow hq w.heap.size).block k hk
theorem Own.kept {w w' : World} {B : Nat} {v : Value} {z : List Int} (h : Own w B v z) (hb : Below w.heap.size w w') : Own w' B v z := ownsRow_stays h fun k _ hk => hb.block k hk
theorem Own.nil (w : World) (B : Nat) : Own w B (.slice none 0 0) [] := World.ownsRow_nil _ _ _ _
theorem Built.below {w w' : World} {B : Nat} {v : Value} {zss : List (List Int)} (h : Built w B v zss) (hb : Below w.heap.size w w') : Built w' B v zss := h.stays hb.size fun k _ hk => hb.block k hk
theorem Built.setCell {w : World} {B : Nat} {v : Value} {zss : List (List Int)} (h : Built w B v zss) {p : Addr} (hp : p.block < B) (x : Value) : Built (w.setCell p x) B v zss :=
  h.stays (by simp) fun k hk _ => Below.heap_setCell w p x k (by omega)
theorem Built.nil (w : World) (B : Nat) : Built w B (.slice none 0 0) [] := ⟨[], World.ownsRow_nil _ _ _ _, fun j z hz => by simp at hz⟩
theorem Built.rows {w : World} {B : Nat} {v : Value} {zss : List (List Int)} (h : Built w B v zss) : ∃ a c, v = .slice a zss.length c ∧ zss.length ≤ c ∧ (a = none → zss.length = 0 ∧ c = 0) ∧ (∀ p, a = some p → p.spot = none) ∧ RowsR .i64 w a zss := by
  obtain ⟨vs, ⟨hl, h1⟩, h2⟩ := h
  rcases h1 with ⟨hv, h0⟩ | ⟨g, cap, cur, hv, hg, hh, hn, hc, hsz, ht⟩
  · exact ⟨none, 0, by rw [h0]; exact hv, by omega, fun _ => ⟨h0, rfl⟩, (fun _ e => by cases e), .inl h0⟩
  · refine ⟨some ⟨g, 0, none⟩, cap, hv, hn, (fun e => by cases e), (fun p e => by cases e; rfl), .inr ⟨g, 0, rfl, (Array.getElem?_eq_some_iff.1 hh).1, fun j hj => ?_⟩⟩
    obtain ⟨u, hu, a, c, rfl, hi, _, hcc⟩ := h2 j _ (getD_some zss [] j hj)
    refine ⟨a, c, ?_, hi, hcc⟩
    have h3 := congrArg (fun l : List Value => l[j]?) ht
    simp only [List.getElem?_take] at h3
    rw [if_pos (by omega), hu] at h3
    simp only [World.cell?, hh, Nat.zero_add]
    simp only [Array.getElem?_toList] at h3
    simp [h3]
theorem Built.len {w : World} {B : Nat} {v : Value} {zss : List (List Int)} (h : Built w B v zss) : ∃ vs, w.ownsRow B 23 1 v zss.length vs := let ⟨vs, h1, _⟩ := h; ⟨vs, h1⟩
/-- One more row, by append. -/
theorem Built.more {w w0 w1 : World} {B : Nat} {v v' : Value} {zss : List (List Int)} {vs : List Value} {a : Option Addr} {c : Nat} {z : List Int}
    (h2 : ∀ (j : Nat) (z : List Int), zss[j]? = some z → ∃ u : Value, vs[j]? = some u ∧ InRow w B v u z) (h1 : w.ownsRow B 23 1 v zss.length vs)
    (hw : Below w.heap.size w w0) (hg : w0.grownBy w1 v.ownBlock) (hat : v'.ownBlock = v.ownBlock ∨ v'.ownBlock = some w0.heap.size)
    (hown : w1.ownsRow B 23 1 v' (zss.length + 1) (vs ++ [.slice a z.length c])) (hi : IntsR w a z) (hp : ∀ p, a = some p → B ≤ p.block ∧ p.block < w.heap.size ∧ v.ownBlock ≠ some p.block) (hcc : z.length ≤ c ∧ c ≤ maxLen) : Built w1 B v' (zss ++ [z]) := by
  have hvl : vs.length = zss.length := by have := h1.1; omega
  have hne : ∀ k, k < w.heap.size → v.ownBlock ≠ some k → v'.ownBlock ≠ some k := by
    intro k hk hv
    rcases hat with h | h
    · rw [h]; exact hv
    · rw [h]; intro e; injection e with e; have := hw.size; omega
  have hst : ∀ k, k < w.heap.size → v.ownBlock ≠ some k → w1.heap[k]? = w.heap[k]? := fun k hk hv => (hg.block k (Nat.lt_of_lt_of_le hk hw.size) (fun e => hv e.symm)).trans (hw.block k hk)
  have hsz : w.heap.size ≤ w1.heap.size := Nat.le_trans hw.size hg.size
  refine ⟨vs ++ [.slice a z.length c], by rw [List.length_append]; exact hown, fun j y hy => ?_⟩
  by_cases hj : j < zss.length
  · rw [List.getElem?_append_left hj] at hy
    obtain ⟨u, hu, b, d, rfl, hi', hp', hcc'⟩ := h2 j y hy
    refine ⟨_, by rw [List.getElem?_append_left (by omega)]; exact hu, b, d, rfl, hi'.stays hsz (fun p e => ?_), (fun p e => ?_), hcc'⟩
    · obtain ⟨_, g2, g3⟩ := hp' p e; exact hst _ g2 g3
    · obtain ⟨g1, g2, g3⟩ := hp' p e; exact ⟨g1, by omega, hne _ g2 g3⟩
  · have hje : j = zss.length := by have := (List.getElem?_eq_some_iff.1 hy).1; simp at this; omega
    subst hje
    rw [List.getElem?_append_right (Nat.le_refl _), Nat.sub_self] at hy
    simp at hy
    subst hy
    refine ⟨_, by rw [List.getElem?_append_right (by omega), hvl, Nat.sub_self]; rfl, a, c, rfl, hi.stays hsz (fun p e => ?_), (fun p e => ?_), hcc⟩
    · obtain ⟨_, g2, g3⟩ := hp p e; exact hst _ g2 g3
    · obtain ⟨g1, g2, g3⟩ := hp p e; exact ⟨g1, by omega, hne _ g2 g3⟩
theorem Own.parts {w : World} {B : Nat} {v : Value} {zs : List Int} (h : Own w B v zs) : ∃ a c, v = .slice a zs.length c ∧ IntsR w a zs ∧ (∀ p, a = some p → B ≤ p.block ∧ p.block < w.heap.size) ∧ zs.length ≤ c ∧ c ≤ maxLen := by
  obtain ⟨a, c, hv, hi⟩ := h.reads
  refine ⟨a, c, hv, hi, (fun p hp => ?_), ?_⟩
  · subst hp
    exact World.ownsRow.lt h p.block (by rw [hv]; rfl)
  · rcases h.2 with ⟨h2, h0⟩ | ⟨g', cap', cur, h2, _, _, h5, h6, _⟩
    · rw [hv] at h2; simp only [Value.slice.injEq] at h2; obtain ⟨_, _, h4⟩ := h2; exact ⟨by omega, by rw [h4]; decide⟩
    · rw [hv] at h2; simp only [Value.slice.injEq] at h2; obtain ⟨_, _, h4⟩ := h2; rw [h4]; exact ⟨h5, h6⟩
theorem Try.info23 : (Try.prog.info? 23).map (fun i => (i.zero, i.size, i.bytes)) = some (some (.slice none 0 0), 1, 24) := by kernel_rfl
theorem one_new {w : World} {x : Value} {T : TypeId} {b : Nat} (hb : b = w.heap.size) : ∀ (j : Nat) (u : Value), [x][j]? = some u → (w.alloc (.cells #[x] T)).cell? ((⟨b, 0, none⟩ : Addr).add j) = some u := by
  intro j u hj
  match j, hj with
  | 0, hj => simp at hj; subst hj; rw [Addr.add_lit]; exact World.cell?_alloc_at _ _ _ _ hb
theorem one_int {k : IntKind} {x : Int} : ∀ u ∈ [Value.int k x], u.oneCell' = true := by
  intro u hu; simp at hu; subst hu; rfl
theorem one_slice {a : Option Addr} {n c : Nat} : ∀ u ∈ [Value.slice a n c], u.oneCell' = true := by
  intro u hu; simp at hu; subst hu; rfl

/-! A block of two cells that is known whole. -/
def Two (w : World) (g : Nat) (x y : Value) : Prop := w.heap[g]? = some (.cells #[x, y] 26 (0, 0))
theorem Two.c0 {w : World} {g : Nat} {x y : Value} (h : Two w g x y) : w.cell? ⟨g, 0, none⟩ = some x := by unfold Two at h; simp [World.cell?, h]
theorem Two.c1 {w : World} {g : Nat} {x y : Value} (h : Two w g x y) : w.cell? ⟨g, 1, none⟩ = some y := by unfold Two at h; simp [World.cell?, h]
theorem Two.free {w : World} {g : Nat} {x y : Value} (h : Two w g x y) (i : Nat) : w.frozen? ⟨g, i, none⟩ = false := by unfold Two at h; simp [World.frozen?, h]
theorem Two.lt {w : World} {g : Nat} {x y : Value} (h : Two w g x y) : g < w.heap.size := (Array.getElem?_eq_some_iff.1 h).1
theorem Two.below {w w' : World} {g B : Nat} {x y : Value} (h : Two w g x y) (hb : Below B w w') (hg : g < B) : Two w' g x y := (hb.block g hg).trans h
theorem Two.new (w : World) (x y : Value) : Two (w.alloc (.cells #[x, y] 26)) w.heap.size x y := heap_alloc_new _ _
theorem Two.alloc {w : World} {g : Nat} {x y : Value} (h : Two w g x y) (o : Obj) : Two (w.alloc o) g x y := (Below.heap_alloc w o g h.lt).trans h
theorem Two.far {w : World} {g : Nat} {x y : Value} (h : Two w g x y) {p : Addr} (hp : g ≠ p.block) (u : Value) : Two (w.setCell p u) g x y := (Below.heap_setCell w p u g hp).trans h
theorem Two.set0 {w : World} {g : Nat} {x y : Value} (h : Two w g x y) (u : Value) : Two (w.setCell ⟨g, 0, none⟩ u) g u y := by
  unfold Two at h ⊢; simp [World.setCell, Array.getElem?_modify, h]
theorem Two.set1 {w : World} {g : Nat} {x y : Value} (h : Two w g x y) (u : Value) : Two (w.setCell ⟨g, 1, none⟩ u) g x u := by
  unfold Two at h ⊢; simp [World.setCell, Array.getElem?_modify, h]
theorem Two.grown {w w' : World} {g : Nat} {x y : Value} {row : Option Nat} (h : Two w g x y) (hg : w.grownBy w' row) (hr : row ≠ some g) : Two w' g x y := (hg.block g h.lt (fun e => hr e.symm)).trans h

/-! What Fit makes. -/
def fitZ (V : Int) (z : List Int) : List Int := (z.map fun x => x.tmod (V + 1)).filter fun v => v != 0
def fitL (V : Int) (zss : List (List Int)) : List (List Int) := zss.map (fitZ V)
def fitB (zss : List (List Int)) : Bool := decide (zss.length ≤ 30) && zss.all fun z => decide (z.length ≤ 20)
theorem fitZ_keep {V : Int} {z : List Int} {k : Nat} {x : Int} (hx : z[k]? = some x) (h : x.tmod (V + 1) ≠ 0) : fitZ V (z.take (k + 1)) = fitZ V (z.take k) ++ [x.tmod (V + 1)] := by
  unfold fitZ; rw [take_snoc _ _ _ hx]; simp [h]
theorem fitZ_drop {V : Int} {z : List Int} {k : Nat} {x : Int} (hx : z[k]? = some x) (h : x.tmod (V + 1) = 0) : fitZ V (z.take (k + 1)) = fitZ V (z.take k) := by
  unfold fitZ; rw [take_snoc _ _ _ hx]; simp [h]
theorem fitZ_le (V : Int) (z : List Int) : (fitZ V z).length ≤ z.length := by
  unfold fitZ; refine Nat.le_trans (List.length_filter_le _ _) ?_; simp
theorem fitZ_range (V : Int) (hV : 1 ≤ V) (z : List Int) : ∀ x ∈ fitZ V z, -V ≤ x ∧ x ≤ V ∧ x ≠ 0 := by
  intro x hx
  unfold fitZ at hx
  rw [List.mem_filter, List.mem_map] at hx
  obtain ⟨⟨y, _, rfl⟩, h⟩ := hx
  have h1 := Int.lt_tmod_of_pos y (show (0 : Int) < V + 1 by omega)
  have h2 := Int.tmod_lt_of_pos y (show (0 : Int) < V + 1 by omega)
  refine ⟨by omega, by omega, by simpa using h⟩
theorem fitL_snoc {V : Int} {zss : List (List Int)} {k : Nat} {z : List Int} (hz : zss[k]? = some z) : fitL V (zss.take (k + 1)) = fitL V (zss.take k) ++ [fitZ V z] := by
  unfold fitL; rw [take_snoc _ _ _ hz]; simp
theorem fitL_len (V : Int) (zss : List (List Int)) : (fitL V zss).length = zss.length := by unfold fitL; simp
theorem fitB_many {zss : List (List Int)} (h : 30 < zss.length) : fitB zss = false := by
  unfold fitB; rw [decide_eq_false (show ¬ zss.length ≤ 30 by omega), Bool.false_and]
theorem fitB_long {zss : List (List Int)} {j : Nat} {z : List Int} (hz : zss[j]? = some z) (hl : 20 < z.length) : fitB zss = false := by
  unfold fitB
  rw [Bool.and_eq_false_iff]; right
  rw [List.all_eq_false]
  exact ⟨z, List.mem_of_getElem? hz, by simp; omega⟩
theorem fitB_yes {zss : List (List Int)} (h : zss.length ≤ 30) (hs : ∀ j z, j < zss.length → zss[j]? = some z → z.length ≤ 20) : fitB zss = true := by
  unfold fitB
  rw [Bool.and_eq_true, List.all_eq_true]
  refine ⟨decide_eq_true h, fun z hz => ?_⟩
  obtain ⟨j, hj⟩ := List.mem_iff_getElem?.1 hz
  exact decide_eq_true (hs j z (List.getElem?_eq_some_iff.1 hj).1 hj)
theorem fitB_parts {zss : List (List Int)} (h : fitB zss = true) : zss.length ≤ 30 ∧ ∀ z ∈ zss, z.length ≤ 20 := by
  unfold fitB at h
  rw [Bool.and_eq_true, List.all_eq_true] at h
  exact ⟨of_decide_eq_true h.1, fun z hz => of_decide_eq_true (h.2 z hz)⟩
end Go.Proofs.Ytbljkbdbiceokaa
