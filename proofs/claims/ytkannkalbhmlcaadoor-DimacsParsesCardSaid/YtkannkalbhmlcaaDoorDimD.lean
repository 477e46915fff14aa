/-
  Plain words: lines by cutting at the first line feed, words of a line by passing over its runes: both are the machine that reads byte by byte.
-/
import Derived.Test.YtkannkalbhmlcaaDoorDimB
import Derived.Lib.IndexMore
import Derived.Lib.FieldsP
namespace Go.Proofs.YtkannkalbhmlcaaDoor
open Go.RowKit Go.Lib

/-! Lines. -/
def cutL : List UInt8 → List UInt8 × List UInt8
  | [] => ([], [])
  | c :: t => if c = 10 then ([], t) else (c :: (cutL t).1, (cutL t).2)
theorem cut_eq : ∀ (l : List UInt8), (Lib.cut l [10]).1 = (cutL l).1 ∧ (Lib.cut l [10]).2.1 = (cutL l).2
  | [] => by simp [Lib.cut, Lib.index, cutL]
  | c :: t => by
    have ih := cut_eq t
    have hg := index_ge t [10]
    unfold cutL
    by_cases h : c = 10
    · subst h; simp [Lib.cut, Lib.index]
    · have hp : ([10].isPrefixOf (c :: t)) = false := by simp [List.isPrefixOf]; exact fun e => h e.symm
      rw [if_neg h]
      unfold Lib.cut at ih ⊢
      simp only [Lib.index, hp]
      by_cases h0 : 0 ≤ Lib.index t [10]
      · rw [if_pos h0] at ih
        obtain ⟨i, hi⟩ : ∃ i : Nat, Lib.index t [10] = i := ⟨(Lib.index t [10]).toNat, by omega⟩
        rw [hi] at ih ⊢
        have hne : ((i : Int) == -1) = false := by rw [beq_eq_false_iff_ne]; omega
        rw [hne]
        simp only [Bool.false_eq_true, if_false]
        rw [if_pos (by omega)]
        have e1 : ((i : Int) + 1).toNat = i + 1 := by omega
        simp only [e1, Int.toNat_natCast, List.length_cons, List.length_nil] at ih ⊢
        rw [List.take_succ_cons, show i + 1 + (0 + 1) = (i + (0 + 1)) + 1 by omega, List.drop_succ_cons, ih.1, ih.2]
        exact ⟨rfl, rfl⟩
      · rw [if_neg h0] at ih
        have hi : Lib.index t [10] = -1 := by omega
        rw [hi]
        simp only at ih
        simp
        exact ⟨ih.1, ih.2.symm⟩
theorem cutL_lt : ∀ (l : List UInt8), l ≠ [] → (cutL l).2.length < l.length
  | [], h => absurd rfl h
  | c :: t, _ => by
    unfold cutL
    split
    · simp
    · by_cases ht : t = []
      · subst ht; simp [cutL]
      · have := cutL_lt t ht; simp; omega
theorem cutL_spec : ∀ (l : List UInt8), (10 : UInt8) ∉ (cutL l).1 ∧ (l = (cutL l).1 ++ 10 :: (cutL l).2 ∨ (l = (cutL l).1 ∧ (cutL l).2 = []))
  | [] => by simp [cutL]
  | c :: t => by
    have ih := cutL_spec t
    unfold cutL
    by_cases h : c = 10
    · rw [if_pos h, h]; simp
    · rw [if_neg h]
      refine ⟨?_, ?_⟩
      · simp only [List.mem_cons, not_or]; exact ⟨fun e => h e.symm, ih.1⟩
      · rcases ih.2 with h1 | ⟨h1, h2⟩
        · left; simp only [List.cons_append, List.cons.injEq, true_and]; exact h1
        · right; exact ⟨by simp only [List.cons.injEq, true_and]; exact h1, h2⟩

def fieldsB (a : List UInt8) : List Word := endW (a.foldl feed ls0)
theorem feed_nl (s : Ls) : feed s 10 = ⟨s.out ++ [endW s], [], [], false⟩ := by unfold feed; rw [if_pos rfl]
/-- What came before changes nothing but the lines that are done. -/
theorem feed_out (o : List (List Word)) (s : Ls) (c : UInt8) : feed { s with out := o ++ s.out } c = { feed s c with out := o ++ (feed s c).out } := by
  unfold feed endW
  split
  · simp
  · split <;> rfl
theorem feeds_out (o : List (List Word)) : ∀ (l : List UInt8) (s : Ls), l.foldl feed { s with out := o ++ s.out } = { l.foldl feed s with out := o ++ (l.foldl feed s).out }
  | [], _ => rfl
  | c :: t, s => by rw [List.foldl_cons, feed_out, feeds_out o t, List.foldl_cons]
theorem fin_out (o : List (List Word)) (s : Ls) : fin { s with out := o ++ s.out } = o ++ fin s := by
  unfold fin endW
  simp only
  split
  · split <;> simp
  · rfl
theorem feeds_nonl : ∀ (a : List UInt8) (s : Ls), (10 : UInt8) ∉ a → (a.foldl feed s).out = s.out ∧ (a.foldl feed s).pend = (s.pend || !a.isEmpty)
  | [], s, _ => by simp
  | c :: t, s, h => by
    simp only [List.mem_cons, not_or] at h
    rw [List.foldl_cons]
    obtain ⟨h1, h2⟩ := feeds_nonl t (feed s c) h.2
    rw [h1, h2]
    have hc : ¬ c = 10 := fun e => h.1 e.symm
    unfold feed
    rw [if_neg hc]
    split <;> simp
theorem linesW_nil : linesW [] = [] := rfl
theorem linesW_cut (l : List UInt8) (h : l ≠ []) : linesW l = fieldsB (cutL l).1 :: linesW (cutL l).2 := by
  obtain ⟨hn, hs⟩ := cutL_spec l
  generalize (cutL l).1 = a at *
  generalize (cutL l).2 = b at *
  obtain ⟨h1, h2⟩ := feeds_nonl a ls0 hn
  rcases hs with rfl | ⟨rfl, rfl⟩
  · unfold linesW
    rw [List.foldl_append, List.foldl_cons]
    have e : feed (a.foldl feed ls0) 10 = { ls0 with out := [fieldsB a] ++ ls0.out } := by
      rw [feed_nl, h1]; rfl
    rw [e, feeds_out, fin_out]; rfl
  · rw [linesW_nil]
    unfold linesW fin
    rw [h2, h1]
    cases l with
    | nil => exact absurd rfl h
    | cons c t => simp [ls0, fieldsB]

/-! The number of lines. -/
theorem feeds_count : ∀ (l : List UInt8) (s : Ls), (l.foldl feed s).out.length = s.out.length + l.count 10
  | [], _ => by simp
  | c :: t, s => by
    rw [List.foldl_cons, feeds_count t]
    unfold feed
    by_cases h : c = 10
    · subst h; simp; omega
    · rw [if_neg h, List.count_cons_of_ne h]; split <;> rfl
theorem linesW_length (l : List UInt8) : (linesW l).length = l.count 10 + (if l ≠ [] ∧ ¬ Lib.hasSuffix l [10] = true then 1 else 0) := by
  have hc : (l.foldl feed ls0).out.length = l.count 10 := by rw [feeds_count l ls0]; simp [ls0]
  have hp : (l.foldl feed ls0).pend = decide (l ≠ [] ∧ ¬ Lib.hasSuffix l [10] = true) := by
    rcases List.eq_nil_or_concat l with rfl | ⟨t, c, rfl⟩
    · rfl
    · rw [List.concat_eq_append, List.foldl_append, List.foldl_cons, List.foldl_nil]
      have hsf : Lib.hasSuffix (t ++ [c]) [10] = (c == 10) := by
        unfold Lib.hasSuffix
        rw [Bool.eq_iff_iff, List.isSuffixOf_iff_suffix, beq_iff_eq]
        constructor
        · rintro ⟨u, hu⟩
          have := congrArg List.getLast? hu
          simp at this; exact this.symm
        · rintro rfl; exact ⟨t, rfl⟩
      rw [hsf]
      unfold feed
      by_cases h : c = 10
      · rw [if_pos h, h]; simp
      · rw [if_neg h]; split <;> simp [h]
  unfold linesW fin
  rw [hp]
  by_cases h : l ≠ [] ∧ ¬ Lib.hasSuffix l [10] = true
  · rw [if_pos h, decide_eq_true h, if_pos rfl, List.length_append, hc]; rfl
  · rw [if_neg h, decide_eq_false h, if_neg (by simp), hc]; rfl

/-! Words. -/
def blankR (r : Nat) : Bool := r == 32 || r == 9
theorem feed_word {u : UInt8} (h : ¬ u = 10 ∧ ¬ u = 32 ∧ ¬ u = 9) (s : Ls) : feed s u = ⟨s.out, s.line, s.word ++ [u], true⟩ := by
  unfold feed; rw [if_neg h.1, if_neg (fun e => e.elim h.2.1 h.2.2)]
theorem feeds_word : ∀ (bs : List UInt8) (s : Ls), (∀ u ∈ bs, ¬ u = 10 ∧ ¬ u = 32 ∧ ¬ u = 9) → bs.foldl feed s = ⟨s.out, s.line, s.word ++ bs, s.pend || !bs.isEmpty⟩
  | [], s, _ => by simp
  | u :: t, s, h => by
    rw [List.foldl_cons, feed_word (h u (by simp)), feeds_word t _ (fun v hv => h v (by simp [hv]))]
    simp
theorem decode_bytes (s : ByteArray) (pos : Nat) :
    ((Utf8.decode s pos).2 = 1 ∧ (Utf8.decode s pos).1 = (s.get! pos).toNat ∧ (s.get! pos).toNat < 128) ∨
    (128 ≤ (Utf8.decode s pos).1 ∧ ∀ j, j < (Utf8.decode s pos).2 → 128 ≤ (s.get! (pos + j)).toNat) := by
  rw [decode_at]
  unfold decodeN
  by_cases h0 : (s.get! pos).toNat < 128
  · left; rw [if_pos h0]; exact ⟨rfl, rfl, h0⟩
  · right
    rw [if_neg h0]
    have b0 := h0
    split
    · rename_i h1
      split
      · refine ⟨by simp only; omega, fun j hj => ?_⟩
        simp only at hj
        match j, hj with
        | 0, _ => simp only [Nat.add_zero]; omega
        | 1, _ => omega
      · exact ⟨by simp only; omega, fun j hj => by simp only at hj; obtain rfl : j = 0 := by omega
                                                   simp only [Nat.add_zero]; omega⟩
    · split
      · rename_i h1
        split
        · refine ⟨by simp only; omega, fun j hj => ?_⟩
          simp only at hj
          match j, hj with
          | 0, _ => simp only [Nat.add_zero]; omega
          | 1, _ => omega
          | 2, _ => omega
        · exact ⟨by simp only; omega, fun j hj => by simp only at hj; obtain rfl : j = 0 := by omega
                                                     simp only [Nat.add_zero]; omega⟩
      · split
        · rename_i h1
          split
          · refine ⟨by simp only; omega, fun j hj => ?_⟩
            simp only at hj
            match j, hj with
            | 0, _ => simp only [Nat.add_zero]; omega
            | 1, _ => omega
            | 2, _ => omega
            | 3, _ => omega
          · exact ⟨by simp only; omega, fun j hj => by simp only at hj; obtain rfl : j = 0 := by omega
                                                       simp only [Nat.add_zero]; omega⟩
        · exact ⟨by simp only; omega, fun j hj => by simp only at hj; obtain rfl : j = 0 := by omega
                                                     simp only [Nat.add_zero]; omega⟩

theorem get_at (s : ByteArray) (j : Nat) (h : j < s.size) : (W8 s)[j]? = some (s.get! j) := by
  rw [at_of h]
  congr 1
  obtain ⟨⟨l⟩⟩ := s
  simp only [ByteArray.get!]
  have h2 : j < l.length := h
  show l[j] = _
  simp [h2]
theorem drop_take {s : ByteArray} (pos k : Nat) : (W8 s).drop pos = ((W8 s).drop pos).take k ++ (W8 s).drop (pos + k) := by
  rw [← List.drop_drop]; exact (List.take_append_drop k _).symm
/-- One rune read: the bytes that it takes. -/
theorem rune_blank {s : ByteArray} {pos : Nat} (h : pos < s.size) (hb : blankR (Utf8.decode s pos).1 = true) :
    (Utf8.decode s pos).2 = 1 ∧ ∃ u : UInt8, (W8 s).drop pos = u :: (W8 s).drop (pos + 1) ∧ (u = 32 ∨ u = 9) := by
  have hd := decode_bytes s pos
  unfold blankR at hb
  simp only [Bool.or_eq_true, beq_iff_eq] at hb
  rcases hd with ⟨h1, h2, h3⟩ | ⟨h1, _⟩
  · refine ⟨h1, s.get! pos, ?_, ?_⟩
    · have hl : pos < (W8 s).length := by rw [w8_len]; exact h
      rw [List.drop_eq_getElem_cons hl]
      have := get_at s pos h
      rw [List.getElem?_eq_getElem hl] at this
      rw [Option.some.inj this]
    · rw [h2] at hb
      rcases hb with hb | hb
      · left; exact UInt8.toNat_inj.1 hb
      · right; exact UInt8.toNat_inj.1 hb
  · omega
theorem rune_word {s : ByteArray} {pos : Nat} (hn : (10 : UInt8) ∉ W8 s) (hw : pos + (Utf8.decode s pos).2 ≤ s.size) (hb : blankR (Utf8.decode s pos).1 = false) :
    ∀ u ∈ ((W8 s).drop pos).take (Utf8.decode s pos).2, ¬ u = 10 ∧ ¬ u = 32 ∧ ¬ u = 9 := by
  intro u hu
  have hm : u ∈ W8 s := List.mem_of_mem_drop (List.mem_of_mem_take hu)
  refine ⟨fun e => hn (e ▸ hm), ?_⟩
  obtain ⟨j, hj⟩ := List.mem_iff_getElem?.1 hu
  have hjk : j < (Utf8.decode s pos).2 := by have := (List.getElem?_eq_some_iff.1 hj).1; rw [List.length_take] at this; omega
  rw [List.getElem?_take, if_pos hjk, List.getElem?_drop, get_at s (pos + j) (by omega)] at hj
  have hj := Option.some.inj hj
  unfold blankR at hb
  simp only [Bool.or_eq_false_iff, beq_eq_false_iff_ne] at hb
  rcases decode_bytes s pos with ⟨h1, h2, h3⟩ | ⟨_, h2⟩
  · obtain rfl : j = 0 := by omega
    rw [Nat.add_zero] at hj
    rw [← hj]
    rw [h2] at hb
    constructor
    · intro e; rw [e] at hb; exact hb.1 rfl
    · intro e; rw [e] at hb; exact hb.2 rfl
  · have := h2 j hjk
    rw [hj] at this
    constructor
    · intro e; rw [e] at this; exact absurd this (by decide)
    · intro e; rw [e] at this; exact absurd this (by decide)

/-- THE PASS OVER THE RUNES of a line without a line feed is the machine's. -/
theorem spans_machine (s : ByteArray) (hn : (10 : UInt8) ∉ W8 s) : ∀ (f pos : Nat) (st : Option Nat) (acc : List (Nat × Nat)) (o : List (List Word)) (b : Bool), s.size ≤ pos + f → pos ≤ s.size → (∀ a, st = some a → a < pos) →
    endW (((W8 s).drop pos).foldl feed ⟨o, acc.map (fun p => pieceU (W8 s) p.1 p.2), openPiece (W8 s) st pos, b⟩) = (closeSpans s (spansFromP blankR s f pos st acc)).map (fun p => pieceU (W8 s) p.1 p.2)
  | 0, pos, st, acc, o, b, h, hp, hst => by
    obtain rfl : pos = s.size := by omega
    have hd : (W8 s).drop s.size = [] := List.drop_eq_nil_of_le (by rw [w8_len]; exact Nat.le_refl _)
    rw [hd, List.foldl_nil]
    cases st with
    | none => simp [spansFromP, closeSpans, openPiece, endW]
    | some a =>
      have := pieceU_ne (W8 s) a s.size (hst a rfl) (by rw [w8_len]; exact Nat.le_refl _)
      simp [spansFromP, closeSpans, openPiece, endW, this]
  | f + 1, pos, st, acc, o, b, h, hp, hst => by
    by_cases hlt : pos < s.size
    · have hw := width_pos s pos
      have hwn : pos + (Utf8.decode s pos).2 ≤ s.size := by
        have := decodeN_le_n' (s.size - pos) (s.get! pos).toNat (s.get! (pos + 1)).toNat (s.get! (pos + 2)).toNat (s.get! (pos + 3)).toNat (by omega)
        rw [← decode_at] at this
        omega
      simp only [spansFromP, if_pos hlt]
      cases hsp : blankR (Utf8.decode s pos).1 with
      | true =>
        obtain ⟨hk, u, hu, hu2⟩ := rune_blank hlt hsp
        rw [hk, hu, List.foldl_cons]
        have hf : ∀ x : Ls, feed x u = ⟨x.out, endW x, [], true⟩ := fun x => by
          unfold feed
          rw [if_neg (by rcases hu2 with e | e <;> rw [e] <;> decide), if_pos hu2]
        rw [hf]
        simp only [if_true]
        cases st with
        | none =>
          have ih := spans_machine s hn f (pos + 1) none acc o true (by omega) (by omega) (fun a h => by cases h)
          have e : endW ⟨o, acc.map (fun p => pieceU (W8 s) p.1 p.2), openPiece (W8 s) none pos, b⟩ = acc.map (fun p => pieceU (W8 s) p.1 p.2) := by simp [openPiece, endW]
          rw [e]
          exact ih
        | some a =>
          have hpn := pieceU_ne (W8 s) a pos (hst a rfl) (by rw [w8_len]; omega)
          have ih := spans_machine s hn f (pos + 1) none (acc ++ [(a, pos)]) o true (by omega) (by omega) (fun a h => by cases h)
          have e : endW ⟨o, acc.map (fun p => pieceU (W8 s) p.1 p.2), openPiece (W8 s) (some a) pos, b⟩ = (acc ++ [(a, pos)]).map (fun p => pieceU (W8 s) p.1 p.2) := by simp [openPiece, endW, hpn]
          rw [e]
          exact ih
      | false =>
        have hwd := rune_word hn hwn hsp
        generalize (Utf8.decode s pos).2 = K at *
        rw [drop_take pos K, List.foldl_append, feeds_word _ _ hwd]
        simp only [Bool.false_eq_true, if_false]
        cases st with
        | none =>
          have ih := spans_machine s hn f (pos + K) (some pos) acc o (b || !(((W8 s).drop pos).take K).isEmpty) (by omega) hwn (fun a h => by cases h; omega)
          have e : ([] : List UInt8) ++ ((W8 s).drop pos).take K = pieceU (W8 s) pos (pos + K) := by
            unfold pieceU
            rw [List.nil_append, Nat.add_sub_cancel_left]
          simp only [openPiece] at ih ⊢
          rw [e]
          exact ih
        | some a =>
          have ih := spans_machine s hn f (pos + K) (some a) acc o (b || !(((W8 s).drop pos).take K).isEmpty) (by omega) hwn (fun b h => by cases h; have := hst a rfl; omega)
          simp only [openPiece] at ih ⊢
          rw [pieceU_grow _ _ _ _ (Nat.le_of_lt (hst a rfl))]
          exact ih
    · obtain rfl : pos = s.size := by omega
      have hd : (W8 s).drop s.size = [] := List.drop_eq_nil_of_le (by rw [w8_len]; exact Nat.le_refl _)
      rw [hd, List.foldl_nil, spansFromP_end blankR s _ _ _ _ hlt]
      cases st with
      | none => simp [closeSpans, openPiece, endW]
      | some a =>
        have := pieceU_ne (W8 s) a s.size (hst a rfl) (by rw [w8_len]; exact Nat.le_refl _)
        simp [closeSpans, openPiece, endW, this]
theorem fields_eq (s : ByteArray) (hn : (10 : UInt8) ∉ W8 s) : (goFieldsP blankR s).map W8 = fieldsB (W8 s) := by
  have h := spans_machine s hn s.size 0 none [] [] false (by omega) (Nat.zero_le _) (fun a h => by cases h)
  simp only [List.map_nil, openPiece, List.drop_zero] at h
  unfold fieldsB ls0
  rw [h]
  unfold goFieldsP spansOfP
  rw [List.map_map]
  congr 1
  funext p
  simp [pieceU, W8]
end Go.Proofs.YtkannkalbhmlcaaDoor
