/-
  The reference's Norm: insertion into a list without repetitions.
-/
import Derived.Test.YtiddnahipdlgkaaLitM
import Derived.Deep.QuietTactic
import Derived.BigQuiet
namespace Go.Proofs.Ytiddnahipdlgkaa
open Go.RowKit Go.Lib
open Go.RowKit (Below)

theorem refLess_q (x y : Int) (w : World) : Calls Try.prog 20 #[.int .i64 x, .int .i64 y] w fun e w' => e = .returned (.bool (lessB x y)) ∧ w' = w := (refLess_any x y w).mono fun _ _ ⟨h1, h2⟩ => ⟨h1, h2.symm⟩
theorem refLess_is (x y : Int) (b : Bool) (h : Hid (lessB x y = b)) (w : World) : Calls Try.prog 20 #[.int .i64 x, .int .i64 y] w fun e w' => e = .returned (.bool b) ∧ w' = w := by
  have := refLess_q x y w; rw [h.out] at this; exact this
theorem size_q (x : Int) (w : World) : Calls Try.prog 25 #[.int .i64 x] w fun e w' => e = .returned (.int .u64 (au x)) ∧ w' = w := (size_any x w).mono fun _ _ ⟨h1, h2⟩ => ⟨h1, h2.symm⟩

/-- All before the place j come before x. -/
def Ahead (out : List Int) (x : Int) (j : Nat) : Prop := ∀ y ∈ out.take j, lessB y x = true
theorem Ahead.zero (out : List Int) (x : Int) : Ahead out x 0 := by intro y hy; simp at hy
theorem Ahead.succ {out : List Int} {x y : Int} {j : Nat} (h : Ahead out x j) (hy : out[j]? = some y) (hl : lessB y x = true) : Ahead out x (j + 1) := by
  intro z hz
  rw [take_snoc _ _ _ hy] at hz
  rcases List.mem_append.1 hz with h1 | h1
  · exact h z h1
  · simp at h1; rw [h1]; exact hl
/-- The place of x: all before it come before x, and what is there does not. -/
def Place (out : List Int) (x : Int) (j : Nat) : Prop := Ahead out x j ∧ ∀ y, out[j]? = some y → lessB y x = false

structure RefAt (W : World) (w : World) (v : Value) (out zs : List Int) (k : Nat) : Prop where
  hk : k ≤ zs.length
  le : out.length ≤ k
  own : Own W w.heap.size v out
  below : Below w.heap.size w W
  strict : Strict out
  mem : ∀ x, x ∈ out ↔ x ∈ zs.take k ∧ x ≠ 0

theorem RefAt.drewN {W w : World} {v : Value} {out zs : List Int} {k : Nat} (h : RefAt W w v out zs k) (n : Nat) : RefAt (W.drewN n) w v out zs k :=
  ⟨h.hk, h.le, h.own, h.below.trans ⟨rfl, rfl, rfl, Nat.le_refl _, fun _ _ => rfl⟩, h.strict, h.mem⟩
theorem RefAt.skip {W w : World} {v : Value} {out zs : List Int} {k : Nat} {x : Int} (h : RefAt W w v out zs k) (hx : zs[k]? = some x) (hs : x = 0 ∨ x ∈ out) : RefAt W w v out zs (k + 1) := by
  have hk : k < zs.length := (List.getElem?_eq_some_iff.1 hx).1
  refine ⟨by omega, by have := h.le; omega, h.own, h.below, h.strict, fun y => ?_⟩
  rw [take_snoc _ _ _ hx, List.mem_append, List.mem_singleton, h.mem]
  constructor
  · rintro ⟨h1, h2⟩; exact ⟨.inl h1, h2⟩
  · rintro ⟨h1 | h1, h2⟩
    · exact ⟨h1, h2⟩
    · subst h1
      rcases hs with hs | hs
      · exact absurd hs h2
      · exact (h.mem _).1 hs
theorem Strict.insert {out : List Int} {x : Int} {j : Nat} (h : Strict out) (hp : Place out x j) (hne : ∀ y, out[j]? = some y → y ≠ x) : Strict (out.take j ++ x :: out.drop j) ∧ (∀ y, y ∈ out.take j ++ x :: out.drop j ↔ y ∈ out ∨ y = x) := by
  have hback : ∀ y ∈ out.drop j, lessB x y = true := by
    intro y hy
    cases hd : out.drop j with
    | nil => rw [hd] at hy; simp at hy
    | cons z r =>
      have hz : out[j]? = some z := by
        have := congrArg (fun l : List Int => l[0]?) hd
        simpa using this
      have h1 : lessB x z = true := by
        have a := hp.2 z hz
        by_cases h2 : lessB x z = true
        · exact h2
        · exact absurd (lessB_total z x (by simp [a]) h2) (hne z hz)
      rw [hd] at hy
      rcases List.mem_cons.1 hy with h2 | h2
      · rw [h2]; exact h1
      · have hs : Strict (out.drop j) := List.Pairwise.sublist (List.drop_sublist j out) h
        rw [hd] at hs
        exact lessB_trans _ _ _ h1 ((List.pairwise_cons.1 hs).1 y h2)
  constructor
  · refine List.pairwise_append.2 ⟨List.Pairwise.sublist (List.take_sublist j out) h, List.pairwise_cons.2 ⟨hback, List.Pairwise.sublist (List.drop_sublist j out) h⟩, ?_⟩
    intro a ha b hb
    rcases List.mem_cons.1 hb with h2 | h2
    · rw [h2]; exact hp.1 a ha
    · exact lessB_trans _ _ _ (hp.1 a ha) (hback b h2)
  · intro y
    rw [List.mem_append, List.mem_cons]
    constructor
    · rintro (h1 | h1 | h1)
      · exact .inl (List.mem_of_mem_take h1)
      · exact .inr h1
      · exact .inl (List.mem_of_mem_drop h1)
    · rintro (h1 | h1)
      · rw [← List.take_append_drop j out, List.mem_append] at h1
        rcases h1 with h1 | h1
        · exact .inl h1
        · exact .inr (.inr h1)
      · exact .inr (.inl h1)
theorem RefAt.insert {W W' w : World} {v v' : Value} {out zs : List Int} {k j : Nat} {x : Int} (h : RefAt W w v out zs k) (hx : zs[k]? = some x) (hx0 : x ≠ 0) (hj : j ≤ out.length) (hp : Place out x j) (hne : ∀ y, out[j]? = some y → y ≠ x)
    (hown : Own W' w.heap.size v' (out.take j ++ x :: out.drop j)) (hb : Below w.heap.size w W') : RefAt W' w v' (out.take j ++ x :: out.drop j) zs (k + 1) := by
  have hk : k < zs.length := (List.getElem?_eq_some_iff.1 hx).1
  have hle := h.le
  obtain ⟨hs, hm⟩ := h.strict.insert hp hne
  refine ⟨by omega, ?_, hown, hb, hs, fun y => ?_⟩
  · simp; omega
  · rw [hm, take_snoc _ _ _ hx, List.mem_append, List.mem_singleton, h.mem]
    constructor
    · rintro (⟨h1, h2⟩ | h1)
      · exact ⟨.inl h1, h2⟩
      · exact ⟨.inr h1, by rw [h1]; exact hx0⟩
    · rintro ⟨h1 | h1, h2⟩
      · exact .inl ⟨h1, h2⟩
      · exact .inr h1
/-- The shift: what the row holds, with something at the place k. -/
def Gap (out cur : List Int) (k : Nat) : Prop := ∃ y, cur = out.take k ++ y :: out.drop k
theorem Gap.length {out cur : List Int} {k : Nat} (h : Gap out cur k) (hk : k ≤ out.length) : cur.length = out.length + 1 := by
  obtain ⟨y, rfl⟩ := h; simp; omega
theorem Gap.step {out cur : List Int} {k : Nat} {z : Int} (h : Gap out cur (k + 1)) (hz : out[k]? = some z) : Gap out (cur.set (k + 1) z) k := by
  obtain ⟨y, rfl⟩ := h
  obtain ⟨hk, rfl⟩ := List.getElem?_eq_some_iff.1 hz
  refine ⟨out[k], ?_⟩
  rw [List.take_succ_eq_append_getElem hk, List.append_assoc, List.set_append_right _ _ (by simp; omega)]
  simp only [List.length_take, Nat.min_eq_left (Nat.le_of_lt hk), List.cons_append, List.nil_append]
  rw [show k + 1 - k = 1 by omega, List.drop_eq_getElem_cons hk]
  rfl
theorem Gap.read {out cur : List Int} {k : Nat} (h : Gap out cur (k + 1)) (hk : k < out.length) : cur[k]? = some out[k] := by
  obtain ⟨y, rfl⟩ := h
  rw [List.getElem?_append_left (by simp; omega), List.getElem?_take, if_pos (by omega)]
  simp
theorem Gap.fill {out cur : List Int} {k : Nat} {x : Int} (h : Gap out cur k) (hk : k ≤ out.length) : cur.set k x = out.take k ++ x :: out.drop k := by
  obtain ⟨y, rfl⟩ := h
  rw [List.set_append_right _ _ (by simp; omega)]
  simp [Nat.min_eq_left hk]
end Go.Proofs.Ytiddnahipdlgkaa
