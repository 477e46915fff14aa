/-
  LitNormal: the plain part.
-/
import Derived.Test.YtiddnahipdlgkaaWLitNorms
import Derived.IntWalk
namespace Go.Proofs.Ytiddnahipdlgkaa
open Go.RowKit Go.Lib

theorem i64_range {z : Int} (h : (Lit.int .i64 z).wf = true) : -9223372036854775808 ≤ z ∧ z ≤ 9223372036854775807 := by
  unfold Lit.wf at h
  rw [Bool.and_eq_true, decide_eq_true_eq, decide_eq_true_eq] at h
  exact h
theorem wrap_i (x : Int) (h1 : -9223372036854775808 ≤ x) (h2 : x ≤ 9223372036854775808) : IntKind.i64.wrap x = if x = 9223372036854775808 then -9223372036854775808 else x := by
  by_cases h : x = 9223372036854775808
  · subst h; decide +kernel
  · rw [if_neg h]; exact IntWalk.i64_in _ (by omega)
theorem au_neg_wrap {q : Int} (h1 : -9223372036854775808 ≤ q) (h2 : q ≤ 9223372036854775807) : au (IntKind.i64.wrap (-q)) = au q := by
  rw [wrap_i (-q) (by omega) (by omega)]
  split
  · have : q = -9223372036854775808 := by omega
    subst this; rfl
  · rw [au_abs (-q) (by omega) (by omega), au_abs q (by omega) (by omega)]
    split <;> split <;> omega

/-- What the statement asks of neighbours in what Norm returns. -/
def Neighbours (r : List Int) : Prop := ∀ (j : Nat) p q, r[j]? = some p → r[j + 1]? = some q → lessB p q = true ∧ (p == IntKind.i64.wrap (-q)) = false
theorem normB_apart (zs : List Int) : ∀ x y, x ∈ (normB zs).1 → y ∈ (normB zs).1 → au x = au y → x = y := by
  have hs := normB_spec zs
  intro x y hx hy he
  cases h : (normB zs).2
  · have hn := hs.no h
    by_cases hxy : x = y
    · exact hxy
    · exact absurd ⟨x, y, ((hn.2.2 x).1 hx).1, ((hn.2.2 y).1 hy).1, ((hn.2.2 x).1 hx).2, ((hn.2.2 y).1 hy).2, hxy, he⟩ hn.1
  · rw [(hs.yes h).1] at hx; simp at hx
theorem normB_strict (zs : List Int) : Strict (normB zs).1 := by
  have hs := normB_spec zs
  cases h : (normB zs).2
  · exact (hs.no h).2.1
  · rw [(hs.yes h).1]; exact List.Pairwise.nil
theorem normB_mem (zs : List Int) : ∀ x ∈ (normB zs).1, x ∈ zs ∧ x ≠ 0 := by
  have hs := normB_spec zs
  cases h : (normB zs).2
  · exact fun x hx => ((hs.no h).2.2 x).1 hx
  · rw [(hs.yes h).1]; simp
theorem neighbours (zs : List Int) (hw : ∀ x ∈ zs, (Lit.int .i64 x).wf = true) : Neighbours (normB zs).1 := by
  intro j p q hp hq
  obtain ⟨hj, rfl⟩ := List.getElem?_eq_some_iff.1 hp
  obtain ⟨hj1, rfl⟩ := List.getElem?_eq_some_iff.1 hq
  have hl := List.pairwise_iff_getElem.1 (normB_strict zs) j (j + 1) hj hj1 (by omega)
  refine ⟨hl, ?_⟩
  rw [beq_eq_false_iff_ne]
  intro e
  have hq := hw _ (normB_mem zs _ (List.getElem_mem hj1)).1
  obtain ⟨h1, h2⟩ := i64_range hq
  have ha : au (normB zs).1[j] = au (normB zs).1[j + 1] := by
    have := congrArg au e
    rw [au_neg_wrap h1 h2] at this; exact this
  have := normB_apart zs _ _ (List.getElem_mem hj) (List.getElem_mem hj1) ha
  rw [this, lessB_irrefl] at hl; cases hl

/-- Norm depends on the members alone. -/
theorem normB_members {zs ys : List Int} (h : ∀ x, x ∈ zs ↔ x ∈ ys) : normB zs = normB ys := by
  have h1 := normB_spec zs
  have h2 := normB_spec ys
  have hc : Clash zs ↔ Clash ys := by
    constructor
    · rintro ⟨x, y, hx, hy, r⟩; exact ⟨x, y, (h x).1 hx, (h y).1 hy, r⟩
    · rintro ⟨x, y, hx, hy, r⟩; exact ⟨x, y, (h x).2 hx, (h y).2 hy, r⟩
  have h3 : NormSpec zs (normB ys).1 (normB ys).2 := ⟨fun e => ⟨(h2.yes e).1, hc.2 (h2.yes e).2⟩, fun e => ⟨fun c => (h2.no e).1 (hc.1 c), (h2.no e).2.1, fun x => by rw [(h2.no e).2.2, h]⟩⟩
  have := h1.unique h3
  exact Prod.ext this.1 this.2
theorem normB_again (zs : List Int) : normB (normB zs).1 = ((normB zs).1, false) := by
  have h1 := normB_spec (normB zs).1
  have h2 : NormSpec (normB zs).1 (normB zs).1 false := by
    refine ⟨by simp, fun _ => ⟨?_, normB_strict zs, fun x => ⟨fun hx => ⟨hx, (normB_mem zs x hx).2⟩, fun hx => hx.1⟩⟩⟩
    rintro ⟨x, y, hx, hy, _, _, h3, h4⟩
    exact h3 (normB_apart zs x y hx hy h4)
  have := h1.unique h2
  exact Prod.ext this.1 this.2

theorem one_new {w : World} {x : Value} {T : TypeId} {b : Nat} (hb : b = w.heap.size) : ∀ (j : Nat) (u : Value), [x][j]? = some u → (w.alloc (.cells #[x] T)).cell? ((⟨b, 0, none⟩ : Addr).add j) = some u := by
  intro j u hj
  match j, hj with
  | 0, hj => simp at hj; subst hj; rw [Addr.add_lit]; exact World.cell?_alloc_at _ _ _ _ hb
theorem one_int {k : IntKind} {x : Int} : ∀ u ∈ [Value.int k x], u.oneCell' = true := by
  intro u hu; simp at hu; subst hu; rfl
theorem quiet_below {w w' : World} (h : QuietTo w w') (B : Nat) : Below B w w' := by
  obtain ⟨q, rfl⟩ := h; exact ⟨rfl, rfl, rfl, Nat.le_refl _, fun _ _ => rfl⟩
theorem wrap_walk (x : Int) : wrap64 x = IntKind.i64.wrap x := by rw [IntKind.wrap_i64]; unfold wrap64; omega

/-- The other list: from the end on, turned, and some of them twice. -/
def otherAt (zs : List Int) (T i : Nat) : Int := zs.getD ((zs.length - 1 - i + T) % zs.length) 0
def otherL (zs : List Int) (T k : Nat) : List Int := (List.range k).flatMap fun i => otherAt zs T i :: if i % 3 = 1 then [zs.getD i 0] else []
theorem otherL_two {zs : List Int} {T k : Nat} (h : k % 3 = 1) : otherL zs T (k + 1) = (otherL zs T k ++ [otherAt zs T k]) ++ [zs.getD k 0] := by
  unfold otherL; rw [List.range_succ, List.flatMap_append]; simp [h]
theorem otherL_one {zs : List Int} {T k : Nat} (h : ¬ k % 3 = 1) : otherL zs T (k + 1) = otherL zs T k ++ [otherAt zs T k] := by
  unfold otherL; rw [List.range_succ, List.flatMap_append]; simp [h]
theorem otherL_le (zs : List Int) (T : Nat) : ∀ k, (otherL zs T k).length ≤ 2 * k
  | 0 => by simp [otherL]
  | k + 1 => by
    have := otherL_le zs T k
    by_cases h : k % 3 = 1
    · rw [otherL_two h]; simp; omega
    · rw [otherL_one h]; simp; omega
theorem mem_getD {zs : List Int} {i : Nat} (h : i < zs.length) : zs.getD i 0 ∈ zs := List.mem_of_getElem? (getD_some zs 0 i h)
theorem otherL_mem (zs : List Int) (T : Nat) (x : Int) : x ∈ otherL zs T zs.length ↔ x ∈ zs := by
  unfold otherL
  rw [List.mem_flatMap]
  constructor
  · rintro ⟨i, hi, hx⟩
    rw [List.mem_range] at hi
    rcases List.mem_cons.1 hx with h | h
    · rw [h]; exact mem_getD (Nat.mod_lt _ (by omega))
    · split at h
      · simp at h; rw [h]; exact mem_getD hi
      · simp at h
  · intro hx
    obtain ⟨p, hp, rfl⟩ := List.mem_iff_getElem.1 hx
    have hL : 0 < zs.length := by omega
    refine ⟨(zs.length - 1 + T - p) % zs.length, List.mem_range.2 (Nat.mod_lt _ hL), List.mem_cons.2 (.inl ?_)⟩
    unfold otherAt
    have e : (zs.length - 1 - (zs.length - 1 + T - p) % zs.length + T) % zs.length = p := by
      have h1 := Nat.mod_add_div (zs.length - 1 + T - p) zs.length
      have h2 := Nat.mod_lt (zs.length - 1 + T - p) hL
      generalize (zs.length - 1 + T - p) % zs.length = m at h1 h2 ⊢
      generalize (zs.length - 1 + T - p) / zs.length = d at h1
      have h3 : zs.length - 1 - m + T = p + zs.length * d := by omega
      rw [h3, Nat.add_mul_mod_self_left, Nat.mod_eq_of_lt hp]
    rw [e]
    simp [List.getD, hp]
end Go.Proofs.Ytiddnahipdlgkaa
