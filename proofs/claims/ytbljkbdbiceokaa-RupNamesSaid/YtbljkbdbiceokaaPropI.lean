/-
  run: what became known is looked at until nothing new does.
-/
import Derived.Test.YtbljkbdbiceokaaPropH
namespace Go.Proofs.Ytbljkbdbiceokaa
open Go.RowKit Go.Lib
open Go.RowKit (Below)
open Go.Conc (solo G rcase scase uponK)

theorem few_of_nodup : ∀ (N : Nat) (l : List Nat), l.Nodup → (∀ x ∈ l, x < N) → l.length ≤ N
  | 0, l, _, h => by
    cases l with
    | nil => simp
    | cons x l => exact absurd (h x (by simp)) (by omega)
  | N + 1, l, hn, h => by
    by_cases hN : N ∈ l
    · have h1 := few_of_nodup N (l.erase N) (hn.erase N) fun x hx => by
        have := h x (List.mem_of_mem_erase hx)
        have hne : x ≠ N := (hn.mem_erase_iff.1 hx).1
        omega
      rw [List.length_erase_of_mem hN] at h1
      omega
    · have := few_of_nodup N l hn fun x hx => by
        have := h x hx
        have hne : x ≠ N := fun e => hN (e ▸ hx)
        omega
      omega
theorem nodup_abs {S : St} (hq : S.queue.Nodup) (hk : ∀ x ∈ S.queue, S.kn x) : (S.queue.map Int.natAbs).Nodup := by
  rw [List.nodup_iff_pairwise_ne, List.pairwise_map]
  refine List.Pairwise.imp_of_mem ?_ (List.nodup_iff_pairwise_ne.1 hq)
  intro a b ha hb hne he
  have h1 := (hk a ha).2
  have h2 := (hk b hb).2
  unfold kat at h1 h2
  rw [he] at h1
  exact hne (h1.symm.trans h2)
theorem Inv.room {F G : List (List Int)} {A : List Int} {n : Nat} {S : St} {cur : Int} {todo : List Int} (I : Inv F G A n S cur todo) {x : Int} (hx : x ≠ 0) (hn : x.natAbs ≤ n) : S.queue.length < 2 * n := by
  have h1 := few_of_nodup (n + 1) (0 :: S.queue.map Int.natAbs) (List.nodup_cons.2 ⟨fun h => by
    obtain ⟨y, hy, h0⟩ := List.mem_map.1 h
    exact (I.qkn y hy).1 (by omega), nodup_abs I.qnd I.qkn⟩) (fun y hy => by
      rcases List.mem_cons.1 hy with rfl | hy
      · omega
      · obtain ⟨z, hz, rfl⟩ := List.mem_map.1 hy
        have h := I.qkn z hz
        rcases Nat.lt_or_ge z.natAbs (n + 1) with h1 | h1
        · exact h1
        · exfalso
          have h2 := h.2
          unfold kat at h2
          rw [List.getD_eq_getElem?_getD, List.getElem?_eq_none (by rw [I.len]; omega)] at h2
          exact h.1 h2.symm)
  simp at h1
  omega

theorem Inv.knle {F G : List (List Int)} {A : List Int} {n : Nat} {S : St} {cur : Int} {todo : List Int} (I : Inv F G A n S cur todo) {x : Int} (h : S.kn x) : x.natAbs ≤ n := by
  rcases Nat.lt_or_ge x.natAbs (n + 1) with h1 | h1
  · omega
  · exfalso
    have h2 := h.2
    unfold kat at h2
    rw [List.getD_eq_getElem?_getD, List.getElem?_eq_none (by rw [I.len]; omega)] at h2
    exact h.1 h2.symm

/-- How much is still to be done. -/
def zeros (l : List Int) : Nat := l.countP (· == 0)
def pm (S : St) : Nat := 2 * zeros S.known + S.queue.length
theorem zeros_set : ∀ (l : List Int) (i : Nat) (x : Int), i < l.length → l.getD i 0 = 0 → x ≠ 0 → zeros (l.set i x) + 1 = zeros l
  | [], _, _, h, _, _ => by simp at h
  | y :: l, 0, x, _, h0, hx => by
    have : y = 0 := by simpa using h0
    simp [zeros, this, hx]
  | y :: l, i + 1, x, h, h0, hx => by
    have := zeros_set l i x (by simpa using h) (by simpa using h0) hx
    unfold zeros at this ⊢
    rw [List.set_cons_succ, List.countP_cons, List.countP_cons]
    omega
theorem pm_learn {S : St} {x : Int} (hx : x ≠ 0) (h : x.natAbs < S.known.length) : pm (learnS S x).1 ≤ pm S := by
  unfold learnS
  split
  · rename_i h0
    have := zeros_set S.known x.natAbs x h h0 hx
    simp only [pm, List.length_append, List.length_cons, List.length_nil]
    omega
  · exact Nat.le_refl _
def isZ : Value → Bool
  | .int _ 0 => true
  | _ => false
def measAt (w : World) (kb qb : Nat) : Nat :=
  2 * (match w.heap[kb]? with | some (.cells xs _ _) => xs.toList.countP isZ | _ => 0) + (match w.heap[qb]? with | some (.chan _ buf _ _ _ _) => buf.size | _ => 0)
theorem countP_isZ (l : List Int) : (l.map (Value.int .i64)).countP isZ = zeros l := by
  induction l with
  | nil => rfl
  | cons x l ih =>
    rw [List.map_cons, List.countP_cons, ih]
    unfold zeros
    rw [List.countP_cons]
    by_cases hx : x = 0
    · subst hx; rfl
    · have : isZ (Value.int .i64 x) = false := by unfold isZ; split; · rename_i h; cases h; exact absurd rfl hx
                                                  · rfl
      simp [this, hx]
theorem PR.meas {B : Nat} {m : Mm} {f : Int → Value} {cv : Value} {N s r : Nat} {vs : List Value} {S : St} {w : World} (h : PR B m f cv N s r vs S w) : measAt w m.kb m.qb = pm S := by
  unfold measAt
  have h1 := h.kn
  unfold Blk at h1
  rw [h1, h.chan]
  have := countP_isZ S.known
  simp only [pm, List.size_toArray, List.length_map]
  omega

theorem replace_watch {S : St} {n : Nat} {x : Int} (hx : kat S.known x = -x) : (replaceS S n x).1.watch x = S.watch x := by
  unfold replaceS
  cases hs : scanS S.known (turnC (S.cls.getD n default) x).b (turnC (S.cls.getD n default) x).rest with
  | some yr =>
    obtain ⟨y, r⟩ := yr
    simp only [hs]
    rw [upd_other]
    rintro rfl
    exact (scanS_some hs).2.1 hx
  | none =>
    simp only [hs]
    unfold learnS; split <;> rfl
theorem pm_replace {S : St} {n : Nat} {x : Int} (hok : (turnC (S.cls.getD n default) x).b ≠ 0) (hl : (turnC (S.cls.getD n default) x).b.natAbs < S.known.length) : pm (replaceS S n x).1 ≤ pm S := by
  unfold replaceS
  cases hs : scanS S.known (turnC (S.cls.getD n default) x).b (turnC (S.cls.getD n default) x).rest with
  | some yr => obtain ⟨y, r⟩ := yr; simp only [hs]; exact Nat.le_refl _
  | none => simp only [hs]; exact pm_learn (S := { S with cls := S.cls.set n ⟨(turnC (S.cls.getD n default) x).a, (turnC (S.cls.getD n default) x).b, []⟩ }) hok hl
theorem kn_replace {S : St} {n : Nat} {x y : Int} (hok : (turnC (S.cls.getD n default) x).b ≠ 0) (hl : (turnC (S.cls.getD n default) x).b.natAbs < S.known.length) (h : S.kn y) : (replaceS S n x).1.kn y := by
  unfold replaceS
  cases hs : scanS S.known (turnC (S.cls.getD n default) x).b (turnC (S.cls.getD n default) x).rest with
  | some yr => obtain ⟨y, r⟩ := yr; simp only [hs]; exact h
  | none =>
    simp only [hs]
    by_cases h0 : kat S.known (turnC (S.cls.getD n default) x).b = 0
    · exact (kn_learn (S := { S with cls := S.cls.set n ⟨(turnC (S.cls.getD n default) x).a, (turnC (S.cls.getD n default) x).b, []⟩ }) hl hok h0).2 (.inr h)
    · unfold learnS; rw [if_neg h0]; exact h
theorem cls_replace {S : St} {n : Nat} {x : Int} : (replaceS S n x).1.cls.length = S.cls.length := by
  unfold replaceS
  cases hs : scanS S.known (turnC (S.cls.getD n default) x).b (turnC (S.cls.getD n default) x).rest with
  | some yr => obtain ⟨y, r⟩ := yr; simp only [hs, List.length_set]
  | none => simp only [hs]; unfold learnS; split <;> simp

/-- The next literal is received. -/
theorem PR.recv {B : Nat} {m : Mm} {f : Int → Value} {cv : Value} {N s r : Nat} {vs : List Value} {S : St} {w : World} (h : PR B m f cv N s r vs S w) {x : Int} {q : List Int} (hq : S.queue = x :: q) :
    PR B m f cv N s (r + 1) vs { S with queue := q } (w.setChan m.qb (2 * m.n) ((S.queue.map (Value.int .i64)).toArray.extract 1 (S.queue.map (Value.int .i64)).toArray.size) false s (r + 1) false) ∧
      Below B w (w.setChan m.qb (2 * m.n) ((S.queue.map (Value.int .i64)).toArray.extract 1 (S.queue.map (Value.int .i64)).toArray.size) false s (r + 1) false) := by
  generalize hw2 : w.setChan m.qb (2 * m.n) ((S.queue.map (Value.int .i64)).toArray.extract 1 (S.queue.map (Value.int .i64)).toArray.size) false s (r + 1) false = w2
  have e2 : ∀ k, k ≠ m.qb → w2.heap[k]? = w.heap[k]? := fun k hk => by rw [← hw2]; exact setChan_block w _ _ _ _ _ _ _ hk
  have hs2 : w2.heap.size = w.heap.size := by rw [← hw2, Go.Conc.size_setChan]
  have hqb := (Array.getElem?_eq_some_iff.1 h.chan).1
  refine ⟨⟨h.hp, h.hk, h.hq, h.hm, h.d1, h.d2, h.d3, h.d4, h.d5, h.d6, h.blk.of (e2 _ h.d2), h.kn.of (e2 _ h.d4), h.klen, ?_, h.map.of (e2 _ h.d6.symm), h.pot, h.wlen,
    fun l => rowStays (h.rows l) fun g hg _ => e2 g (h.off l g hg).2.2.1, h.apart, h.off, rowStays h.cls fun g hg _ => e2 g (h.coff g hg).2.2.1,
    fun j e he => (h.cvs j e he).stays (by omega) fun g hg _ => e2 g (by have := h.hq; omega), h.coff⟩, ?_⟩
  · rw [← hw2, Go.Conc.heap_setChan _ _ _ _ _ _ _ _ hqb, hq]
    simp
    exact List.take_of_length_le (by simp)
  · rw [← hw2]
    exact Go.Conc.below_setChan (Below.refl B w) h.hq _ _ _ _ _ _
end Go.Proofs.Ytbljkbdbiceokaa
