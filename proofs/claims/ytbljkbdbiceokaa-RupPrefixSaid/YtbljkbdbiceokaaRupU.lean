/-
  A formula that grows by rows of another list; prefixes of a proof.
-/
import Derived.Test.YtbljkbdbiceokaaRupT
import Derived.Test.YtbljkbdbiceokaaCnfG
namespace Go.Proofs.Ytbljkbdbiceokaa
open Go.RowKit Go.Lib
open Go.RowKit (Below)

theorem goodAt_take {F P : List (List Int)} {k j : Nat} (h : j < k) : GoodAt F (P.take k) j ↔ GoodAt F P j := by
  unfold GoodAt
  rw [List.getElem?_take, if_pos h, List.take_take, Nat.min_eq_left (Nat.le_of_lt h)]
theorem firstBad_take {F P : List (List Int)} {k : Nat} (h : FirstBad F P k) : FirstBad F (P.take (k + 1)) k := by
  obtain ⟨h1, h2, h3⟩ := h
  refine ⟨by rw [List.length_take]; omega, fun h => h2 ((goodAt_take (Nat.lt_succ_self _)).1 h), fun j hj => (goodAt_take (by omega)).2 (h3 j hj)⟩
theorem goodAt_iff {F P : List (List Int)} {k : Nat} {z : List Int} (hz : P[k]? = some z) : GoodAt F P k ↔ Fails (F ++ P.take k) (negs z) := by
  unfold GoodAt
  rw [hz]
  exact ⟨fun h => h z rfl, fun h y hy => by cases hy; exact h⟩

/-- A formula of the call's own, in block F, with a list of its own; its rows lie elsewhere. -/
structure MixB (w0 wr : World) (F : Nat) (V : Int) (v : Value) (G : List (List Int)) : Prop where
  f : Two wr F (.int .i64 V) v
  mix : ∃ vs : List Value, wr.ownsRow w0.heap.size 23 1 v G.length vs ∧ ∀ (j : Nat) (z : List Int), G[j]? = some z → ∃ u : Value, vs[j]? = some u ∧ MixRow wr F v u z
  below : Below w0.heap.size w0 wr
  lo : w0.heap.size ≤ F
  nf : v.ownBlock ≠ some F
theorem MixB.first {w0 w1 : World} {V : Int} {v : Value} {G : List (List Int)} (h : Built w1 w0.heap.size v G) (hb : Below w0.heap.size w0 w1) : MixB w0 (w1.alloc (.cells #[.int .i64 V, v] 26)) w1.heap.size V v G := by
  have hb1 : Below w1.heap.size w1 (w1.alloc (.cells #[.int .i64 V, v] 26)) := boxed w1 _
  obtain ⟨vs, h1, h2⟩ := h
  have hnf : v.ownBlock ≠ some w1.heap.size := fun e => by have := (World.ownsRow.lt h1 _ e).2; omega
  refine ⟨Two.new _ _ _, ⟨vs, ownsRow_stays h1 fun k _ hk => hb1.block k hk, fun j z hz => ?_⟩, hb.trans (hb1.mono hb.size), hb.size, hnf⟩
  obtain ⟨u, hu, a, c, rfl, hi, hp, hcc⟩ := h2 j z hz
  exact ⟨_, hu, a, c, rfl, hi.below hb1, fun _ p e => ⟨by have := (hp p e).2.1; simp; omega, by have := (hp p e).2.1; omega, (hp p e).2.2⟩, hcc⟩
theorem MixB.on {w0 wr w' : World} {F : Nat} {V : Int} {v : Value} {G : List (List Int)} (h : MixB w0 wr F V v G) (hb : Below wr.heap.size wr w') : MixB w0 w' F V v G := by
  obtain ⟨hf, ⟨vs, h1, h2⟩, h3, h4, h5⟩ := h
  refine ⟨hf.below hb hf.lt, ⟨vs, ownsRow_stays h1 fun k _ hk => hb.block k hk, fun j z hz => ?_⟩, h3.trans (hb.mono h3.size), h4, h5⟩
  obtain ⟨u, hu, hm⟩ := h2 j z hz
  exact ⟨u, hu, hm.stays hb.size fun k hk _ hv => ⟨hb.block k hk, hv⟩⟩
theorem MixB.rows {w0 w : World} {F : Nat} {V : Int} {v : Value} {zss : List (List Int)} (h : MixB w0 w F V v zss) : ∃ a c, v = .slice a zss.length c ∧ RowsR .i64 w a zss := by
  obtain ⟨vs, ⟨hl, h1⟩, h2⟩ := h.mix
  rcases h1 with ⟨hv, h0⟩ | ⟨g, cap, cur, hv, hg, hh, hn, hc, hsz, ht⟩
  · exact ⟨none, 0, by rw [h0]; exact hv, .inl h0⟩
  · refine ⟨some ⟨g, 0, none⟩, cap, hv, .inr ⟨g, 0, rfl, (Array.getElem?_eq_some_iff.1 hh).1, fun j hj => ?_⟩⟩
    obtain ⟨u, hu, a, c, rfl, hi, _, hcc⟩ := h2 j _ (getD_some zss [] j hj)
    refine ⟨a, c, ?_, hi, hcc⟩
    have h3 := congrArg (fun l : List Value => l[j]?) ht
    simp only [List.getElem?_take] at h3
    rw [if_pos (by omega), hu] at h3
    simp only [World.cell?, hh, Nat.zero_add]
    simp only [Array.getElem?_toList] at h3
    simp [h3]
theorem MixB.next {w0 wr : World} {F : Nat} {V : Int} {v : Value} {G : List (List Int)} (h : MixB w0 wr F V v G) : ∃ vs : List Value, wr.ownsRow w0.heap.size 23 1 v G.length vs ∧
    ∀ (wa w1 : World) (v' : Value) (a1 : Option Addr) (d1 : Nat) (z : List Int), Below wr.heap.size wr wa → wa.grownBy w1 v.ownBlock → (v'.ownBlock = v.ownBlock ∨ ∃ k, v'.ownBlock = some k ∧ wr.heap.size ≤ k) → w1.ownsRow w0.heap.size 23 1 v' (G.length + 1) (vs ++ [.slice a1 z.length d1]) →
      IntsR wr a1 z → (z.length ≠ 0 → ∀ p, a1 = some p → p.block < w0.heap.size) → z.length ≤ d1 ∧ d1 ≤ maxLen →
      MixB w0 (w1.setCell ⟨F, 1, none⟩ v') F V v' (G ++ [z]) ∧ Two w1 F (.int .i64 V) v := by
  obtain ⟨hf, ⟨vs, h1, h2⟩, h3, h4, h5⟩ := h
  refine ⟨vs, h1, fun wa w1 v' a1 d1 z hw hg hat hown hi hp hcc => ?_⟩
  have hvl : vs.length = G.length := by have := h1.1; omega
  have hFl := hf.lt
  have hlo : ∀ k, v.ownBlock = some k → w0.heap.size ≤ k ∧ k < wr.heap.size := fun k hk => World.ownsRow.lt h1 k hk
  have hsz : wr.heap.size ≤ w1.heap.size := Nat.le_trans hw.size hg.size
  have hsz' : wr.heap.size ≤ (w1.setCell ⟨F, 1, none⟩ v').heap.size := by simpa using hsz
  have hF1 : Two w1 F (.int .i64 V) v := (hf.below hw hFl).grown hg h5
  have hst : ∀ k, k < wr.heap.size → v.ownBlock ≠ some k → w1.heap[k]? = wr.heap[k]? := fun k hk hv => (hg.block k (Nat.lt_of_lt_of_le hk hw.size) (fun e => hv e.symm)).trans (hw.block k hk)
  have hst' : ∀ k, k < wr.heap.size → k ≠ F → v.ownBlock ≠ some k → (w1.setCell ⟨F, 1, none⟩ v').heap[k]? = wr.heap[k]? := fun k hk hF hv => (Below.heap_setCell w1 ⟨F, 1, none⟩ v' k hF).trans (hst k hk hv)
  have hne : ∀ k, k < wr.heap.size → v.ownBlock ≠ some k → v'.ownBlock ≠ some k := by
    intro k hk hv
    rcases hat with h | ⟨q, h, hq⟩
    · rw [h]; exact hv
    · rw [h]; intro e; injection e with e; omega
  have hnf : v'.ownBlock ≠ some F := hne F hFl h5
  refine ⟨⟨hF1.set1 v', ⟨vs ++ [.slice a1 z.length d1], ?_, fun j y hy => ?_⟩, ?_, h4, hnf⟩, hF1⟩
  · rw [List.length_append]
    obtain ⟨e1, h | ⟨g, cap, cur, e2, e3, e4, e5⟩⟩ := hown
    · exact ⟨e1, .inl h⟩
    · refine ⟨e1, .inr ⟨g, cap, cur, e2, e3, ?_, e5⟩⟩
      rw [Below.heap_setCell _ _ _ _ (fun (e : g = F) => hnf (by rw [e2, ← e]; rfl))]; exact e4
  · by_cases hj : j < G.length
    · rw [List.getElem?_append_left hj] at hy
      obtain ⟨u, hu, hm⟩ := h2 j y hy
      exact ⟨u, by rw [List.getElem?_append_left (by omega)]; exact hu, hm.stays hsz' fun k hk hF hv => ⟨hst' k hk hF hv, hne k hk hv⟩⟩
    · have hje : j = G.length := by have := (List.getElem?_eq_some_iff.1 hy).1; simp at this; omega
      subst hje
      rw [List.getElem?_append_right (Nat.le_refl _), Nat.sub_self] at hy
      simp at hy
      subst hy
      have hsw : w0.heap.size ≤ wr.heap.size := h3.size
      have hm : MixRow wr F v (.slice a1 z.length d1) z := ⟨a1, d1, rfl, hi, fun h0 p e => ⟨by have := hp h0 p e; omega, by have := hp h0 p e; omega, fun e' => by have := (hlo _ e').1; have := hp h0 p e; omega⟩, hcc⟩
      exact ⟨_, by rw [List.getElem?_append_right (by omega), hvl, Nat.sub_self]; rfl, hm.stays hsz' fun k hk hF hv => ⟨hst' k hk hF hv, hne k hk hv⟩⟩
  · have hb1 : Below w0.heap.size w0 w1 := (h3.trans (hw.mono h3.size)).grown hg (by have := hw.size; have := h3.size; omega) (fun k hk => (hlo k hk).1)
    exact hb1.setCell (p := ⟨F, 1, none⟩) h4 _
end Go.Proofs.Ytbljkbdbiceokaa
