/-
  A list of the call's own, of rows that lay there before the call.
-/
import Derived.Test.YtbljkbdbiceokaaRupT
namespace Go.Proofs.Ytbljkbdbiceokaa
open Go.RowKit Go.Lib
open Go.RowKit (Below)

def LowRow (w0 : World) (u : Value) (z : List Int) : Prop := ∃ aj cj, u = .slice aj z.length cj ∧ IntsR w0 aj z ∧ z.length ≤ cj ∧ cj ≤ maxLen
structure MixL (w0 wr : World) (v : Value) (G : List (List Int)) : Prop where
  below : Below w0.heap.size w0 wr
  mix : ∃ vs : List Value, wr.ownsRow w0.heap.size 23 1 v G.length vs ∧ ∀ (j : Nat) (z : List Int), G[j]? = some z → ∃ u : Value, vs[j]? = some u ∧ LowRow w0 u z
theorem MixL.nil {w0 wr : World} (h : Below w0.heap.size w0 wr) : MixL w0 wr (.slice none 0 0) [] := ⟨h, [], World.ownsRow_nil _ _ _ _, fun j z hz => by simp at hz⟩
theorem MixL.on {w0 wr w' : World} {v : Value} {G : List (List Int)} (h : MixL w0 wr v G) (hb : Below wr.heap.size wr w') : MixL w0 w' v G := by
  obtain ⟨h3, vs, h1, h2⟩ := h
  exact ⟨h3.trans (hb.mono h3.size), vs, ownsRow_stays h1 fun k _ hk => hb.block k hk, h2⟩
theorem MixL.set {w0 wr : World} {v : Value} {G : List (List Int)} (h : MixL w0 wr v G) {F i : Nat} (hF : w0.heap.size ≤ F) (hn : v.ownBlock ≠ some F) (x : Value) : MixL w0 (wr.setCell ⟨F, i, none⟩ x) v G := by
  obtain ⟨h3, vs, h1, h2⟩ := h
  refine ⟨h3.setCell (p := ⟨F, i, none⟩) hF _, vs, ?_, h2⟩
  obtain ⟨e1, h | ⟨g, cap, cur, e2, e3, e4, e5⟩⟩ := h1
  · exact ⟨e1, .inl h⟩
  · refine ⟨e1, .inr ⟨g, cap, cur, e2, e3, ?_, e5⟩⟩
    rw [Below.heap_setCell _ _ _ _ (fun (e : g = F) => hn (by rw [e2, ← e]; rfl))]; exact e4
theorem MixL.lt {w0 wr : World} {v : Value} {G : List (List Int)} (h : MixL w0 wr v G) : ∀ k, v.ownBlock = some k → w0.heap.size ≤ k ∧ k < wr.heap.size := by
  obtain ⟨_, vs, h1, _⟩ := h
  exact fun k hk => World.ownsRow.lt h1 k hk
theorem MixL.rows {w0 w : World} {v : Value} {zss : List (List Int)} (h : MixL w0 w v zss) : ∃ a c, v = .slice a zss.length c ∧ zss.length ≤ c ∧ RowsR .i64 w a zss := by
  obtain ⟨hb, vs, ⟨hl, h1⟩, h2⟩ := h
  rcases h1 with ⟨hv, h0⟩ | ⟨g, cap, cur, hv, hg, hh, hn, hc, hsz, ht⟩
  · exact ⟨none, 0, by rw [h0]; exact hv, by omega, .inl h0⟩
  · refine ⟨some ⟨g, 0, none⟩, cap, hv, hn, .inr ⟨g, 0, rfl, (Array.getElem?_eq_some_iff.1 hh).1, fun j hj => ?_⟩⟩
    obtain ⟨u, hu, a, c, rfl, hi, hcc⟩ := h2 j _ (getD_some zss [] j hj)
    refine ⟨a, c, ?_, KI.of (hi.below hb), hcc⟩
    have h3 := congrArg (fun l : List Value => l[j]?) ht
    simp only [List.getElem?_take] at h3
    rw [if_pos (by omega), hu] at h3
    simp only [World.cell?, hh, Nat.zero_add]
    simp only [Array.getElem?_toList] at h3
    simp [h3]
theorem MixL.grown {w0 wr w1 : World} {v v' : Value} {G Z : List (List Int)} {vs news : List Value} (hb : Below w0.heap.size w0 wr) (h1 : wr.ownsRow w0.heap.size 23 1 v G.length vs) (h2 : ∀ (j : Nat) (z : List Int), G[j]? = some z → ∃ u : Value, vs[j]? = some u ∧ LowRow w0 u z)
    (hg : wr.grownBy w1 v.ownBlock) (hown : w1.ownsRow w0.heap.size 23 1 v' (G.length + Z.length) (vs ++ news)) (hn : ∀ (j : Nat) (z : List Int), Z[j]? = some z → ∃ u : Value, news[j]? = some u ∧ LowRow w0 u z) : MixL w0 w1 v' (G ++ Z) := by
  have hvl : vs.length = G.length := by have := h1.1; omega
  refine ⟨hb.grown hg hb.size (fun k hk => (World.ownsRow.lt h1 k hk).1), vs ++ news, by rw [List.length_append]; exact hown, fun j y hy => ?_⟩
  by_cases hj : j < G.length
  · rw [List.getElem?_append_left hj] at hy
    obtain ⟨u, hu, hm⟩ := h2 j y hy
    exact ⟨u, by rw [List.getElem?_append_left (by omega)]; exact hu, hm⟩
  · rw [List.getElem?_append_right (by omega)] at hy
    obtain ⟨u, hu, hm⟩ := hn _ y hy
    exact ⟨u, by rw [List.getElem?_append_right (by omega), hvl]; exact hu, hm⟩

/-- The cells of rows that lay there before. -/
theorem RowsR.news {w0 wr : World} {a : Option Addr} {Z : List (List Int)} (h : RowsR .i64 w0 a Z) (hb : Below w0.heap.size w0 wr) : Z.length = 0 ∨ ∃ (b off : Nat) (news : List Value), a = some ⟨b, off, none⟩ ∧ news.length = Z.length ∧ (∀ (j : Nat) (u : Value), news[j]? = some u → wr.cell? ((⟨b, off, none⟩ : Addr).add j) = some u) ∧ (∀ u : Value, u ∈ news → u.oneCell' = true) ∧ ∀ (j : Nat) (z : List Int), Z[j]? = some z → ∃ u : Value, news[j]? = some u ∧ LowRow w0 u z := by
  rcases h with h | ⟨b, off, rfl, hs, hc⟩
  · exact .inl h
  · refine .inr ⟨b, off, (List.range Z.length).map fun j => (w0.cell? ⟨b, off + j, none⟩).getD (.slice none 0 0), rfl, by simp, fun j u hu => ?_, fun u hu => ?_, fun j z hz => ?_⟩
    · rw [List.getElem?_map] at hu
      have hj : j < Z.length := by
        by_cases hj : j < Z.length
        · exact hj
        · rw [List.getElem?_eq_none (by simp; omega)] at hu; cases hu
      rw [List.getElem?_range hj] at hu
      obtain ⟨aj, cj, h1, _⟩ := hc j hj
      rw [Addr.add_lit, hb.cell (p := ⟨b, off + j, none⟩) hs, h1]
      simpa [h1] using hu
    · obtain ⟨j, hj, rfl⟩ := List.mem_map.1 hu
      obtain ⟨aj, cj, h1, _⟩ := hc j (by simpa using hj)
      rw [h1]; rfl
    · have hj : j < Z.length := (List.getElem?_eq_some_iff.1 hz).1
      obtain ⟨aj, cj, h1, h2, h3, h4⟩ := hc j hj
      have hd : Z.getD j [] = z := by rw [List.getD_eq_getElem?_getD, hz]; rfl
      rw [hd] at h1 h2 h3
      refine ⟨.slice aj z.length cj, ?_, aj, cj, rfl, h2.ints, h3, h4⟩
      rw [List.getElem?_map, List.getElem?_range hj]
      simp [h1]
theorem RowsR.drop {w : World} {b off : Nat} {Z : List (List Int)} (h : RowsR .i64 w (some ⟨b, off, none⟩) Z) (k : Nat) : RowsR .i64 w (some ⟨b, off + k, none⟩) (Z.drop k) := by
  rcases h with h | ⟨b', off', e, hs, hc⟩
  · left; rw [List.length_drop]; omega
  · cases e
    refine .inr ⟨b, off + k, rfl, hs, fun j hj => ?_⟩
    rw [List.length_drop] at hj
    obtain ⟨aj, cj, h1, h2⟩ := hc (k + j) (by omega)
    have hd : (Z.drop k).getD j [] = Z.getD (k + j) [] := by simp [List.getD_eq_getElem?_getD, List.getElem?_drop]
    rw [hd]
    exact ⟨aj, cj, by rw [Nat.add_assoc]; exact h1, h2⟩

theorem Try.infoSl : (Try.prog.info? 23).map (fun i => (i.zero, i.size, i.bytes)) = some (some (.slice none 0 0), 1, 24) := by kernel_rfl
theorem run_append_low {w0 w : World} {v : Value} {G Z : List (List Int)} (hM : MixL w0 w v G) (a : Option Addr) (m c : Nat) (ty : TypeId) (hm : Z.length = m) (hR : RowsR .i64 w0 a Z) (hsm : G.length + m ≤ 1000000) (ha : a = none → m = 0) :
    ∃ v' w', (Builtin.append_ #[24, 24] ty #[v, .slice a m c]).run Try.prog w = .ok v' w' ∧ MixL w0 w' v' (G ++ Z) ∧ w.grownBy w' v.ownBlock ∧ (v'.ownBlock = v.ownBlock ∨ v'.ownBlock = some w.heap.size) := by
  obtain ⟨j0, hj, hy0, hy1, hy2⟩ := info_parts Try.infoSl
  have hmx : maxLen = 9223372036854775807 := rfl
  obtain ⟨hb, vs, h1, h2⟩ := hM
  subst hm
  cases a with
  | none =>
    have h0 : Z.length = 0 := ha rfl
    have hz0 : Z = [] := List.length_eq_zero_iff.1 h0
    subst hz0
    refine ⟨v, w, run_append_zero w0.heap.size 24 ty 23 j0 1 Try.underlying24 hj v G.length c vs h1, ?_, ⟨rfl, rfl, rfl, Nat.le_refl _, fun _ _ _ => rfl⟩, .inl rfl⟩
    rw [List.append_nil]; exact ⟨hb, vs, h1, h2⟩
  | some p =>
    by_cases h0 : Z.length = 0
    · have hz0 : Z = [] := List.length_eq_zero_iff.1 h0
      subst hz0
      obtain ⟨v', w', hr, g2, g3, _, g5⟩ := run_append_own_at (P := Try.prog) (w := w) w0.heap.size 24 ty 23 j0 (.slice none 0 0) 1 24 Try.underlying24 hj hy0 hy1 hy2 rfl (by decide) v G.length vs h1 p 0 c [] rfl (fun j u hu => by simp at hu) (fun u hu => by simp at hu) (by omega) (by omega) hb.size
      exact ⟨v', w', hr, MixL.grown (Z := []) hb h1 h2 g3 g2 (fun j z hz => by simp at hz), g3, g5⟩
    · obtain ⟨b, off, news, e, n1, n2, n3, n4⟩ := (hR.news hb).resolve_left h0
      cases e
      obtain ⟨v', w', hr, g2, g3, _, g5⟩ := run_append_own_at (P := Try.prog) (w := w) w0.heap.size 24 ty 23 j0 (.slice none 0 0) 1 24 Try.underlying24 hj hy0 hy1 hy2 rfl (by decide) v G.length vs h1 ⟨b, off, none⟩ Z.length c news (by omega) n2 n3 (by omega) (by omega) hb.size
      exact ⟨v', w', hr, MixL.grown hb h1 h2 g3 g2 n4, g3, g5⟩
theorem step_append_low {w0 w : World} {ops : Array Oper} {o : Oper} {ac : Act} {K : Act → World → Prop} {Q : Exit → Act → World → Prop} {E : Prop} (hgd : o.guard = none) (s x : Operand)
    (ho : o.op = .call { callee := .builtin .append, args := #[s, x], argTypes := #[24, 24] }) (v : Value) (hs : ac.eval s = v) (a : Option Addr) (m c : Nat) (hx : ac.eval x = .slice a m c)
    {G Z : List (List Int)} (hM : MixL w0 w v G) (hm : Z.length = m) (hR : RowsR .i64 w0 a Z) (hsm : G.length + m ≤ 1000000) (ha : a = none → m = 0)
    (h : ∀ v' w', MixL w0 w' v' (G ++ Z) → w.grownBy w' v.ownBlock → (v'.ownBlock = v.ownBlock ∨ v'.ownBlock = some w.heap.size) → K (ac.put o.dst v') w') :
    if Region.wanted o (yielded ops ac.tmps) = true then Oper.wp Try.prog o ac w K Q else E := by
  have hw : Region.wanted o (yielded ops ac.tmps) = true := by simp [Region.wanted, hgd]
  rw [if_pos hw]
  obtain ⟨v', w', hr, h2, h3, h4⟩ := run_append_low (Z := Z) hM a m c o.type hm hR hsm ha
  unfold Oper.wp execOp
  simp only [ho, resolve, invoke, builtin, Sem.run_bind, Sem.run_pure, Result.andThen_ok, List.map_toArray, List.map_cons, List.map_nil, hs, hx, hr]
  exact h v' w' h2 h3 h4
end Go.Proofs.Ytbljkbdbiceokaa
