/-
  Plain words: a text without its last word, and with one more.
-/
import Derived.Test.YtkannkalbhmlcaaDoorDimR
namespace Go.Proofs.YtkannkalbhmlcaaDoor
open Go.RowKit Go.Lib
open Go.RowKit (Below)

theorem runL_cons (c n : Nat) (r : Rd) (ws : List Word) (t : List (List Word)) : runL c n r (ws :: t) = if isNote ws then runL c (n + 1) r t else match stepL c r ws with | .error e => .error (n, e) | .ok r' => runL c (n + 1) r' t := rfl
theorem runL_append {c : Nat} : ∀ (ls ms : List (List Word)) (n : Nat) {r r' : Rd}, runL c n r ls = .ok r' → runL c n r (ls ++ ms) = runL c (n + ls.length) r' ms
  | [], ms, n, r, r', h => by cases h; rfl
  | ws :: t, ms, n, r, r', h => by
    rw [List.cons_append, runL_cons]
    rw [runL_cons] at h
    have e : n + (ws :: t).length = (n + 1) + t.length := by simp; omega
    rw [e]
    by_cases hw : isNote ws = true
    · rw [if_pos hw] at h ⊢
      exact runL_append t ms _ h
    · rw [if_neg hw] at h ⊢
      cases hs : stepL c r ws with
      | error x => rw [hs] at h; cases h
      | ok q => rw [hs] at h; exact runL_append t ms _ h
theorem runL_head {v : Int} {k : Nat} (h0 : 0 ≤ v) (h1 : v ≤ 1048576) (h2 : k ≤ 1048576) (n : Nat) (ls : List (List Word)) : runL 1048577 n rd0 (headL v k :: ls) = runL 1048577 (n + 1) ⟨true, k, v, [], []⟩ ls := by
  conv => lhs; unfold runL
  have hno : isNote (headL v k) = false := rfl
  rw [if_neg (by rw [hno]; simp)]
  unfold stepL
  rw [if_neg (by simp [rd0]), head_ok h0 h1 h2 (by omega)]
  rfl
theorem runL_clauses {v : Int} {k : Nat} (h1 : v ≤ 1048576) {zss : List (List Int)} (hk : zss.length ≤ k) (hz : ∀ z ∈ zss, ClOk v z) (n : Nat) : runL 1048577 n ⟨true, k, v, [], []⟩ (zss.map clauseW) = .ok ⟨true, k, v, zss, []⟩ := by
  refine runL_flat _ n rfl ?_
  rw [flat_clauses]
  have := steps_clauses 1048577 v (by omega) k zss [] (by simp; omega) hz
  simpa using this

/-- Without its last word and what follows it. -/
def cutT (v : Int) (zss : List (List Int)) (z : List Int) : List UInt8 := headT v (zss.length + 1) ++ (zss.flatMap clauseT ++ litsT z)
theorem cutT_ends (v : Int) (zss : List (List Int)) (z : List Int) : formT v (zss ++ [z]) = cutT v zss z ++ [48, 10] := by
  unfold formT cutT
  simp [clauseT_eq]
theorem linesW_cutT (v : Int) (zss : List (List Int)) (z : List Int) : linesW (cutT v zss z) = headL v (zss.length + 1) :: (zss.map clauseW ++ if z = [] then [] else [z.map itoa]) := by
  unfold linesW cutT
  rw [List.foldl_append, List.foldl_append, feed_head, feed_clauses]
  have h := feed_lits z ([headL v (zss.length + 1)] ++ zss.map clauseW) [] false
  unfold lits' at h
  unfold litsT
  rw [h]
  cases z with
  | nil => simp [fin]
  | cons x t => simp [fin, endW]
theorem parse_cutT {v : Int} {zss : List (List Int)} {z : List Int} (h : FmOk v (zss ++ [z])) (hl : (cutT v zss z).length ≤ 65536) : ∃ j : Nat, (j = zss.length + 2 ∨ j = zss.length + 3) ∧ parseB (cutT v zss z) = ⟨0, [], j, 4⟩ := by
  have hk := h.many
  rw [List.length_append, List.length_singleton] at hk
  have hcl : ∀ y ∈ zss, ClOk v y := fun y hy => h.cls y (by simp [hy])
  have hz : ClOk v z := h.cls z (by simp)
  have h1 := runL_clauses (k := zss.length + 1) h.vars.2 (zss := zss) (by omega) hcl 2
  have hrun : ∃ u, runL 1048577 1 rd0 (linesW (cutT v zss z)) = .ok ⟨true, ((zss.length + 1 : Nat) : Int), v, zss, u⟩ := by
    rw [linesW_cutT, runL_head h.vars.1 h.vars.2 hk, runL_append _ _ _ h1]
    by_cases hz0 : z = []
    · rw [if_pos hz0]; exact ⟨[], rfl⟩
    · rw [if_neg hz0]
      refine ⟨z, runL_flat _ _ rfl ?_⟩
      have hn : isNote (z.map itoa) = false := by
        have := clauseW_note z
        unfold clauseW at this
        cases z with
        | nil => exact absurd rfl hz0
        | cons x t => rw [List.map_cons] at this ⊢; exact this
      have hf : flat [z.map itoa] = z.map itoa := by
        unfold flat; rw [List.flatMap_cons, hn]; simp
      rw [hf]
      have := steps_lits 1048577 v (by have := h.vars.2; omega) ((zss.length + 1 : Nat) : Int) zss (by omega) z [] hz.lit (by have := hz.len; simp; omega)
      simpa using this
  obtain ⟨u, hu⟩ := hrun
  have hlen : (linesW (cutT v zss z)).length = zss.length + 1 ∨ (linesW (cutT v zss z)).length = zss.length + 2 := by
    rw [linesW_cutT]
    by_cases hz0 : z = []
    · rw [if_pos hz0]; left; simp
    · rw [if_neg hz0]; right; simp
  refine ⟨(linesW (cutT v zss z)).length + 1, by omega, ?_⟩
  unfold parseB parseC
  rw [if_neg (by omega), hu]
  simp only
  unfold endR
  rw [if_pos (.inr (by simp only; omega))]
  simp

/-- With one more word. -/
theorem linesW_more (v : Int) (zss : List (List Int)) (b : UInt8) (hb : NoSep b) : linesW (formT v zss ++ [b]) = headL v zss.length :: (zss.map clauseW ++ [[[b]]]) := by
  unfold linesW formT
  rw [List.foldl_append, List.foldl_append, feed_head, feed_clauses]
  have h := feed_run [b] (by intro x hx; simp at hx; subst hx; exact hb) ([headL v zss.length] ++ zss.map clauseW) [] [] false
  rw [h]
  simp [fin, endW]
theorem parse_more {v : Int} {zss : List (List Int)} (h : FmOk v zss) {b : UInt8} (hb : b = 48 ∨ b = 49) (hl : (formT v zss).length + 1 ≤ 65536) : parseB (formT v zss ++ [b]) = ⟨0, [], (zss.length + 2 : Nat), 4⟩ := by
  have h1 := runL_clauses (k := zss.length) h.vars.2 (zss := zss) (Nat.le_refl _) h.cls 2
  have hns : NoSep b := by rcases hb with rfl | rfl <;> (unfold NoSep; decide)
  have hn : isNote [[b]] = false := by rcases hb with rfl | rfl <;> decide
  have hnum : ∃ x, num 1048577 [b] = some x := by
    rcases hb with rfl | rfl
    · exact ⟨0, by decide +kernel⟩
    · exact ⟨1, by decide +kernel⟩
  obtain ⟨x, hx⟩ := hnum
  have h2 : runL 1048577 (2 + (zss.map clauseW).length) ⟨true, zss.length, v, zss, []⟩ [[[b]]] = .error (2 + (zss.map clauseW).length, 4) := by
    unfold runL
    rw [hn]
    simp only [Bool.false_eq_true, if_false]
    unfold stepL
    simp only [if_true]
    rw [stepsW_cons]
    unfold stepW
    rw [hx]
    simp
  unfold parseB parseC
  rw [if_neg (by rw [List.length_append]; simp; omega), linesW_more v zss b hns, runL_head h.vars.1 h.vars.2 h.many, runL_append _ _ _ h1, h2]
  simp; omega
end Go.Proofs.YtkannkalbhmlcaaDoor
