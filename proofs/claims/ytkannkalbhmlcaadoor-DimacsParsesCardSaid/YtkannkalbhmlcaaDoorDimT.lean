/-
  Plain words: what is parsed is valid; where errors lie.
-/
import Derived.Test.YtkannkalbhmlcaaDoorDimS
namespace Go.Proofs.YtkannkalbhmlcaaDoor
open Go.RowKit Go.Lib
open Go.RowKit (Below)

theorem clOk_check {v : Int} (h : 0 ≤ v ∧ v ≤ 1048576) {z : List Int} (hz : ClOk v z) : checkI v z = 0 := by
  refine checkI_ok _ _ (by omega) (by omega) (by have := hz.len; omega) ?_
  rw [List.any_eq_false]
  intro x hx
  obtain ⟨a1, a2, a3⟩ := hz.lit x hx
  have ha := au_abs x (by omega) (by omega)
  unfold badB
  simp only [Bool.or_eq_true, beq_iff_eq, decide_eq_true_eq, not_or]
  refine ⟨a1, ?_⟩
  rw [ha]; split <;> omega
theorem fmOk_check {v : Int} {zss : List (List Int)} (h : FmOk v zss) : checkF v zss = 0 := by
  have h1 := h.vars
  have h2 := h.many
  rw [checkF_in (by omega) (by omega)]
  exact errs_zero fun z hz => clOk_check h1 (h.cls z hz)
theorem fmOk_i64 {v : Int} {zss : List (List Int)} (h : FmOk v zss) : ∀ z ∈ zss, ∀ x ∈ z, I64 x := fun z hz x hx => by
  have h1 := h.vars
  have h2 := (h.cls z hz).lit x hx
  unfold I64; omega
theorem fmOk_all {v : Int} {zss : List (List Int)} (h : FmOk v zss) : AllLen zss := fun z hz => by
  have h2 := (h.cls z hz).len
  unfold maxLen; omega

/-- How much has been read. -/
def wtL (zss : List (List Int)) : Nat := (zss.map fun z => z.length + 1).sum
structure Val (r : Rd) (m : Nat) : Prop where
  fine : Fine r
  ann : 0 ≤ r.ann ∧ r.ann ≤ 1048576
  many : (r.cls.length : Int) ≤ r.ann
  none : r.begun = false → r.cls = [] ∧ r.cl = []
  cls : ∀ z ∈ r.cls, ClOk r.vars z
  cl : ClOk r.vars r.cl
  wt : wtL r.cls + r.cl.length ≤ m
theorem rd0_val (m : Nat) : Val rd0 m := by
  refine ⟨rd0_fine, ?_, ?_, fun _ => ⟨rfl, rfl⟩, fun z hz => (by cases hz), ⟨by simp [rd0], fun x hx => by cases hx⟩, by simp [rd0, wtL]⟩
  · simp [rd0]
  · simp [rd0]
theorem Val.more {r : Rd} {m k : Nat} (h : Val r m) (hk : m ≤ k) : Val r k := ⟨h.fine, h.ann, h.many, h.none, h.cls, h.cl, Nat.le_trans h.wt hk⟩
theorem stepW_val {c : Nat} {r r' : Rd} {m : Nat} {w : Word} (hr : Val r m) (hb : r.begun = true) (h : stepW c r w = .ok r') : Val r' (m + 1) ∧ r'.begun = true := by
  obtain ⟨h1, h2, h3, h4, h5, h6, h7⟩ := hr
  unfold stepW at h
  cases hn : num c w with
  | none => rw [hn] at h; simp at h
  | some x =>
    rw [hn] at h
    simp only at h
    split at h
    · cases h
    · rename_i ha
      split at h
      · cases h
        refine ⟨⟨h1, h2, by simp; omega, fun e => absurd hb (by simp only at e; rw [e]; simp), ?_, ⟨by simp, fun x hx => by cases hx⟩, ?_⟩, hb⟩
        · intro z hz
          rcases List.mem_append.1 hz with hz | hz
          · exact h5 z hz
          · rw [List.mem_singleton] at hz; subst hz; exact h6
        · simp only [wtL, List.map_append, List.sum_append, List.map_cons, List.map_nil, List.sum_cons, List.sum_nil, List.length_nil] at h7 ⊢; omega
      · rename_i h0
        split at h
        · cases h
        · rename_i hv
          split at h
          · cases h
          · rename_i hl
            cases h
            have hll := h6.len
            refine ⟨⟨h1, h2, h3, fun e => absurd hb (by simp only at e; rw [e]; simp), h5, ⟨by simp; omega, ?_⟩, by simp only [List.length_append, List.length_cons, List.length_nil]; omega⟩, hb⟩
            intro y hy
            rcases List.mem_append.1 hy with hy | hy
            · exact h6.lit y hy
            · rw [List.mem_singleton] at hy; subst hy; exact (show y ≠ 0 ∧ -r.vars ≤ y ∧ y ≤ r.vars from ⟨h0, by omega, by omega⟩)
theorem stepsW_val {c : Nat} : ∀ (ws : List Word) {r r' : Rd} {m : Nat}, Val r m → r.begun = true → stepsW c r ws = .ok r' → Val r' (m + ws.length) ∧ r'.begun = true
  | [], r, r', m, hr, hb, h => by cases h; exact ⟨hr, hb⟩
  | w :: t, r, r', m, hr, hb, h => by
    rw [stepsW_cons] at h
    cases hs : stepW c r w with
    | error e => rw [hs] at h; cases h
    | ok r1 =>
      rw [hs] at h
      obtain ⟨h1, h2⟩ := stepW_val hr hb hs
      have := stepsW_val t h1 h2 h
      rw [List.length_cons, show m + (t.length + 1) = m + 1 + t.length by omega]
      exact this
theorem stepL_val {c : Nat} {r r' : Rd} {m : Nat} {ws : List Word} (hr : Val r m) (h : stepL c r ws = .ok r') : Val r' (m + ws.length) := by
  unfold stepL at h
  cases hb : r.begun
  · rw [hb] at h
    simp only [Bool.false_eq_true, if_false] at h
    cases hh : headW c ws with
    | error e => rw [hh] at h; cases h
    | ok p =>
      obtain ⟨v, k⟩ := p
      rw [hh] at h
      cases h
      have hf := headW_fine hh
      obtain ⟨e1, e2⟩ := hr.none hb
      refine ⟨⟨hf.1, hf.2.1⟩, ⟨hf.2.2.1, hf.2.2.2⟩, ?_, fun e => by simp at e, ?_, ?_, ?_⟩
      · simp only; rw [e1]; simp; omega
      · intro z hz; simp only at hz; rw [e1] at hz; cases hz
      · simp only; rw [e2]; exact ⟨by simp, fun x hx => by cases hx⟩
      · have := hr.wt; simp only; omega
  · rw [hb] at h
    simp only [if_true] at h
    exact (stepsW_val ws hr hb h).1
def wordsN (ls : List (List Word)) : Nat := (ls.map List.length).sum
theorem runL_val {c : Nat} : ∀ (ls : List (List Word)) (n : Nat) {r r' : Rd} {m : Nat}, Val r m → runL c n r ls = .ok r' → Val r' (m + wordsN ls)
  | [], n, r, r', m, hr, h => by cases h; exact hr
  | ws :: t, n, r, r', m, hr, h => by
    rw [runL_cons] at h
    have e : wordsN (ws :: t) = ws.length + wordsN t := by simp [wordsN]
    by_cases hw : isNote ws = true
    · rw [if_pos hw] at h
      exact (runL_val t _ hr h).more (by omega)
    · rw [if_neg hw] at h
      cases hs : stepL c r ws with
      | error x => rw [hs] at h; cases h
      | ok q => rw [hs] at h; exact (runL_val t _ (stepL_val hr hs) h).more (by omega)
/-- Errors. -/
theorem stepW_err {c : Nat} {r : Rd} {w : Word} {e : Int} (h : stepW c r w = .error e) : e ≠ 0 := by
  unfold stepW at h
  repeat' split at h
  all_goals first | (cases h; decide) | (simp at h)
theorem stepsW_err {c : Nat} : ∀ (ws : List Word) {r : Rd} {e : Int}, stepsW c r ws = .error e → e ≠ 0
  | [], r, e, h => by cases h
  | w :: t, r, e, h => by
    rw [stepsW_cons] at h
    cases hs : stepW c r w with
    | error x => rw [hs] at h; cases h; exact stepW_err hs
    | ok r1 => rw [hs] at h; exact stepsW_err t h
theorem headW_err {c : Nat} {ws : List Word} {e : Int} (h : headW c ws = .error e) : e ≠ 0 := by
  unfold headW at h
  repeat' split at h
  all_goals first | (cases h; decide) | (simp at h)
theorem stepL_err' {c : Nat} {r : Rd} {ws : List Word} {e : Int} (h : stepL c r ws = .error e) : e ≠ 0 := by
  unfold stepL at h
  split at h
  · exact stepsW_err ws h
  · cases hh : headW c ws with
    | error x => rw [hh] at h; cases h; exact headW_err hh
    | ok p => rw [hh] at h; cases h
theorem runL_err {c : Nat} : ∀ (ls : List (List Word)) (n : Nat) {r : Rd} {k : Nat} {e : Int}, runL c n r ls = .error (k, e) → e ≠ 0 ∧ n ≤ k ∧ k < n + ls.length
  | [], n, r, k, e, h => by cases h
  | ws :: t, n, r, k, e, h => by
    rw [runL_cons] at h
    rw [List.length_cons]
    by_cases hw : isNote ws = true
    · rw [if_pos hw] at h
      have := runL_err t _ h
      exact ⟨this.1, by omega, by omega⟩
    · rw [if_neg hw] at h
      cases hs : stepL c r ws with
      | error x => rw [hs] at h; cases h; exact ⟨stepL_err' hs, by omega, by omega⟩
      | ok q =>
        rw [hs] at h
        have := runL_err t _ h
        exact ⟨this.1, by omega, by omega⟩
/-- Words of a text. -/
def cntS (s : Ls) : Nat := wordsN s.out + s.line.length + (if s.word = [] then 0 else 1)
theorem wordsN_snoc (o : List (List Word)) (l : List Word) : wordsN (o ++ [l]) = wordsN o + l.length := by simp [wordsN]
theorem endW_len (s : Ls) : (endW s).length = s.line.length + (if s.word = [] then 0 else 1) := by
  unfold endW; split <;> simp_all
theorem feed_cnt (s : Ls) (c : UInt8) : cntS (feed s c) ≤ cntS s + 1 := by
  have h := endW_len s
  unfold feed
  split
  · unfold cntS; simp only [wordsN_snoc, if_true, List.length_nil]; omega
  · split
    · unfold cntS; simp only [if_true]; omega
    · unfold cntS; simp only; split <;> split <;> omega
theorem feeds_cnt : ∀ (l : List UInt8) (s : Ls), cntS (l.foldl feed s) ≤ cntS s + l.length
  | [], s => by simp
  | c :: t, s => by
    rw [List.foldl_cons, List.length_cons]
    have := feeds_cnt t (feed s c)
    have := feed_cnt s c
    omega
theorem linesW_words (l : List UInt8) : wordsN (linesW l) ≤ l.length := by
  have h := feeds_cnt l ls0
  have h0 : cntS ls0 = 0 := by simp [cntS, ls0, wordsN]
  unfold linesW fin
  split
  · rw [wordsN_snoc, endW_len]
    unfold cntS at h; unfold cntS at h0; omega
  · unfold cntS at h; unfold cntS at h0; omega
theorem text_le {v : Int} {zss : List (List Int)} (h : FmOk v zss) : (formT v zss).length ≤ 50 + 22 * wtL zss := by
  have h1 : ∀ (ys : List (List Int)), (∀ z ∈ ys, ∀ x ∈ z, I64 x) → (ys.flatMap clauseT).length ≤ 22 * wtL ys := by
    intro ys
    induction ys with
    | nil => intro _; simp
    | cons z t ih =>
      intro hy
      have h1 := ih (fun y hh => hy y (by simp [hh]))
      have h2 := litsT_le z (hy z (by simp))
      rw [List.flatMap_cons, List.length_append, clauseT_eq, List.length_append]
      simp only [wtL, List.map_cons, List.sum_cons, List.length_cons, List.length_nil] at h1 ⊢
      omega
  have h2 := h1 zss (fmOk_i64 h)
  have h3 := (headT_le (V := v) (n := zss.length) (by have := h.vars; unfold I64; omega) h.many).1
  unfold formT
  rw [List.length_append]; omega
/-- What comes of a short text. -/
theorem parse_valid (l : List UInt8) (hl : l.length ≤ 2000) :
    (∃ (n : Nat) (e : Int), e ≠ 0 ∧ 1 ≤ n ∧ n ≤ l.count 10 + 2 ∧ parseB l = ⟨0, [], n, e⟩) ∨ (∃ v zss, FmOk v zss ∧ (formT v zss).length ≤ 65536 ∧ parseB l = ⟨v, zss, 0, 0⟩) := by
  have hn := linesW_length l
  have hn2 : (linesW l).length ≤ l.count 10 + 1 := by rw [hn]; split <;> omega
  unfold parseB parseC
  rw [if_neg (by omega)]
  cases hr : runL 1048577 1 rd0 (linesW l) with
  | error p =>
    obtain ⟨n, e⟩ := p
    obtain ⟨h1, h2, h3⟩ := runL_err _ _ hr
    exact .inl ⟨n, e, h1, h2, by omega, rfl⟩
  | ok r =>
    simp only
    unfold endR
    by_cases hb : r.begun = false ∨ (r.cls.length : Int) < r.ann
    · rw [if_pos hb]
      exact .inl ⟨(linesW l).length + 1, 4, by decide, by omega, by omega, by simp⟩
    · rw [if_neg hb]
      have hv := runL_val _ _ (rd0_val 0) hr
      have h1 := hv.fine
      have h2 := hv.ann
      have h3 := hv.many
      have h4 := hv.wt
      have h5 := linesW_words l
      have hok : FmOk r.vars r.cls := ⟨h1, by omega, hv.cls⟩
      exact .inr ⟨r.vars, r.cls, hok, by have := text_le hok; omega, rfl⟩
end Go.Proofs.YtkannkalbhmlcaaDoor
