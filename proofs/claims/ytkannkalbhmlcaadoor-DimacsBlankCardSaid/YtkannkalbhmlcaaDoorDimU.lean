/-
  Plain words: comments, blanks and ends of lines between the words make no difference.
-/
import Derived.Test.YtkannkalbhmlcaaDoorDimS
namespace Go.Proofs.YtkannkalbhmlcaaDoor
open Go.RowKit Go.Lib
open Go.RowKit (Below)

def oddT (k : Nat) : List UInt8 :=
  match k % 7 with
  | 0 => [32]
  | 1 => [9]
  | 2 => [32, 32]
  | 3 => [10]
  | 4 => [32, 10, 9]
  | 5 => [10, 99, 10]
  | _ => [10, 99, 32, 49, 32, 48, 32, 112, 32, 99, 110, 102, 10, 10]
/-- The text that is made: byte by byte. -/
structure Bl where
  out : List UInt8
  header : Bool
  at' : Nat
def stepBl (q : Nat → Nat) (s : Bl) (b : UInt8) : Bl :=
  if s.header then (if b = 10 then ⟨s.out ++ [10], false, s.at'⟩ else ⟨s.out ++ [b], true, s.at'⟩)
  else if b = 32 ∨ b = 10 then ⟨s.out ++ oddT (q s.at'), false, s.at' + 1⟩ else ⟨s.out ++ [b], false, s.at'⟩
def bl0 : Bl := ⟨[], true, 0⟩
theorem bl_head (q : Nat → Nat) : ∀ (l : List UInt8) (o : List UInt8) (n : Nat), (∀ b ∈ l, b ≠ 10) → (l ++ [10]).foldl (stepBl q) ⟨o, true, n⟩ = ⟨o ++ l ++ [10], false, n⟩
  | [], o, n, _ => by simp [stepBl]
  | b :: t, o, n, h => by
    rw [List.cons_append, List.foldl_cons]
    have e : stepBl q ⟨o, true, n⟩ b = ⟨o ++ [b], true, n⟩ := by unfold stepBl; rw [if_pos rfl, if_neg (h b (by simp))]
    rw [e, bl_head q t (o ++ [b]) n (fun x hx => h x (by simp [hx]))]
    simp
theorem bl_word (q : Nat → Nat) : ∀ (l : List UInt8) (o : List UInt8) (n : Nat), (∀ b ∈ l, NoSep b) → l.foldl (stepBl q) ⟨o, false, n⟩ = ⟨o ++ l, false, n⟩
  | [], o, n, _ => by simp
  | b :: t, o, n, h => by
    rw [List.foldl_cons]
    obtain ⟨h1, h2, h3⟩ := h b (by simp)
    have e : stepBl q ⟨o, false, n⟩ b = ⟨o ++ [b], false, n⟩ := by unfold stepBl; rw [if_neg (by simp), if_neg (by rintro (r | r); exact h2 r; exact h1 r)]
    rw [e, bl_word q t (o ++ [b]) n (fun x hx => h x (by simp [hx]))]
    simp
def joinQ (q : Nat → Nat) : Nat → List Word → List UInt8
  | _, [] => []
  | n, w :: t => w ++ oddT (q n) ++ joinQ q (n + 1) t
theorem joinQ_cons (q : Nat → Nat) (n : Nat) (w : Word) (t : List Word) : joinQ q n (w :: t) = w ++ oddT (q n) ++ joinQ q (n + 1) t := rfl
theorem joinQ_append (q : Nat → Nat) : ∀ (a b : List Word) (n : Nat), joinQ q n (a ++ b) = joinQ q n a ++ joinQ q (n + a.length) b
  | [], b, n => by simp [joinQ]
  | w :: t, b, n => by
    rw [List.cons_append, joinQ_cons, joinQ_cons, joinQ_append q t b (n + 1), List.length_cons, show n + (t.length + 1) = n + 1 + t.length by omega]
    simp
theorem bl_one (q : Nat → Nat) (w : Word) (b : UInt8) (hb : b = 32 ∨ b = 10) (hw : ∀ b ∈ w, NoSep b) (o : List UInt8) (n : Nat) : (w ++ [b]).foldl (stepBl q) ⟨o, false, n⟩ = ⟨o ++ (w ++ oddT (q n)), false, n + 1⟩ := by
  rw [List.foldl_append, bl_word q w o n hw]
  simp only [List.foldl_cons, List.foldl_nil]
  unfold stepBl
  rw [if_neg (by simp), if_pos hb]
  simp
theorem bl_lits (q : Nat → Nat) : ∀ (z : List Int) (o : List UInt8) (n : Nat), (litsT z).foldl (stepBl q) ⟨o, false, n⟩ = ⟨o ++ joinQ q n (z.map itoa), false, n + z.length⟩
  | [], o, n => by simp [litsT, joinQ]
  | x :: t, o, n => by
    have h := bl_lits q t (o ++ (itoa x ++ oddT (q n))) (n + 1)
    unfold litsT at h ⊢
    rw [List.flatMap_cons, List.foldl_append, bl_one q (itoa x) 32 (.inl rfl) (itoa_nosep x), h, List.map_cons, joinQ_cons, List.length_cons, show n + 1 + t.length = n + (t.length + 1) by omega]
    simp
theorem bl_clause (q : Nat → Nat) (z : List Int) (o : List UInt8) (n : Nat) : (clauseT z).foldl (stepBl q) ⟨o, false, n⟩ = ⟨o ++ joinQ q n (clauseW z), false, n + (clauseW z).length⟩ := by
  rw [clauseT_eq, List.foldl_append, bl_lits]
  have := bl_one q [48] 10 (.inr rfl) (by intro b hb; simp at hb; subst hb; unfold NoSep; decide) (o ++ joinQ q n (z.map itoa)) (n + z.length)
  rw [show ([48, 10] : List UInt8) = [48] ++ [10] from rfl, this]
  unfold clauseW
  rw [joinQ_append]
  simp [joinQ]; omega
theorem bl_clauses (q : Nat → Nat) : ∀ (zss : List (List Int)) (o : List UInt8) (n : Nat), (zss.flatMap clauseT).foldl (stepBl q) ⟨o, false, n⟩ = ⟨o ++ joinQ q n (zss.flatMap clauseW), false, n + (zss.flatMap clauseW).length⟩
  | [], o, n => by simp [joinQ]
  | z :: t, o, n => by
    rw [List.flatMap_cons, List.foldl_append, bl_clause, bl_clauses q t, List.flatMap_cons, joinQ_append]
    simp; omega
theorem bl_form (q : Nat → Nat) (v : Int) (zss : List (List Int)) : (formT v zss).foldl (stepBl q) bl0 = ⟨headT v zss.length ++ joinQ q 0 (zss.flatMap clauseW), false, (zss.flatMap clauseW).length⟩ := by
  unfold formT bl0
  rw [List.foldl_append]
  have e : headT v zss.length = ([112, 32, 99, 110, 102, 32] ++ itoa v ++ [32] ++ itoa zss.length) ++ [10] := rfl
  have hn : ∀ b ∈ ([112, 32, 99, 110, 102, 32] ++ itoa v ++ [32] ++ itoa zss.length : List UInt8), b ≠ 10 := by
    intro b hb
    simp only [List.mem_append] at hb
    rcases hb with ((hb | hb) | hb) | hb
    · intro e; subst e; simp at hb
    · exact (itoa_nosep v b hb).1
    · intro e; subst e; simp at hb
    · exact (itoa_nosep _ b hb).1
  conv => lhs; rw [e]
  rw [bl_head q _ [] 0 hn, List.nil_append, ← e, bl_clauses]
  simp

/-- Between two words: the words so far. -/
structure Betw (s : Ls) (ws : List Word) : Prop where
  word : s.word = []
  line : s.line = [] ∨ isNote s.line = false
  pend : s.pend = false → s.line = []
  flat : flat s.out ++ s.line = ws
theorem flat_snoc (o : List (List Word)) (l : List Word) : flat (o ++ [l]) = flat o ++ (if isNote l then [] else l) := by simp [flat]
theorem note_more {l : List Word} {w : Word} (h : l = [] ∨ isNote l = false) (hw : w ≠ [99]) : isNote (l ++ [w]) = false := by
  rcases h with rfl | h
  · simp [isNote, hw]
  · cases l with
    | nil => simp [isNote] at h
    | cons a t => simpa [isNote] using h
theorem Betw.step {s : Ls} {ws : List Word} (h : Betw s ws) (w : Word) (hw : ∀ b ∈ w, NoSep b) (hn : w ≠ []) (hc : w ≠ [99]) (k : Nat) : Betw ((w ++ oddT k).foldl feed s) (ws ++ [w]) := by
  obtain ⟨o, l, v, p⟩ := s
  obtain ⟨h1, h2, h3, h4⟩ := h
  simp only at h1 h2 h3 h4
  subst h1 h4
  have hm := note_more h2 hc
  rw [List.foldl_append, feed_run w hw]
  simp only [List.nil_append]
  have hne : w.isEmpty = false := by cases w; exact absurd rfl hn; rfl
  rw [hne]
  have n1 : isNote [[(99 : UInt8)]] = true := rfl
  have n2 : isNote ([[99], [49], [48], [112], [99, 110, 102]] : List Word) = true := rfl
  have n3 : isNote ([] : List Word) = true := rfl
  unfold oddT
  split <;> simp only [List.foldl_cons, List.foldl_nil, feed, endW] <;> simp [hn]
  · exact ⟨rfl, .inr hm, by simp, by simp⟩
  · exact ⟨rfl, .inr hm, by simp, by simp⟩
  · exact ⟨rfl, .inr hm, by simp, by simp⟩
  · exact ⟨rfl, .inl rfl, by simp, by simp only [flat_snoc, hm]; simp⟩
  · exact ⟨rfl, .inl rfl, by simp, by simp only [flat_snoc, hm]; simp⟩
  · refine ⟨rfl, .inl rfl, by simp, ?_⟩
    rw [show o ++ [l ++ [w], [[99]]] = (o ++ [l ++ [w]]) ++ [[[99]]] by simp]
    simp only [flat_snoc, hm, n1]; simp
  · refine ⟨rfl, .inl rfl, by simp, ?_⟩
    rw [show o ++ [l ++ [w], [[99], [49], [48], [112], [99, 110, 102]], []] = ((o ++ [l ++ [w]]) ++ [[[99], [49], [48], [112], [99, 110, 102]]]) ++ [[]] by simp]
    simp only [flat_snoc, hm, n2, n3]; simp
theorem Betw.all (q : Nat → Nat) : ∀ (vs : List Word) (n : Nat) {s : Ls} {ws : List Word}, Betw s ws → (∀ w ∈ vs, (∀ b ∈ w, NoSep b) ∧ w ≠ [] ∧ w ≠ [99]) → Betw ((joinQ q n vs).foldl feed s) (ws ++ vs)
  | [], n, s, ws, h, _ => by simpa [joinQ] using h
  | w :: t, n, s, ws, h, hv => by
    unfold joinQ
    rw [List.foldl_append]
    obtain ⟨a, b, c⟩ := hv w (by simp)
    have := Betw.all q t (n + 1) (h.step w a b c (q n)) (fun x hx => hv x (by simp [hx]))
    simpa using this
theorem words_fine (zss : List (List Int)) : ∀ w ∈ zss.flatMap clauseW, (∀ b ∈ w, NoSep b) ∧ w ≠ [] ∧ w ≠ [99] := by
  intro w hw
  obtain ⟨z, _, hz⟩ := List.mem_flatMap.1 hw
  unfold clauseW at hz
  rcases List.mem_append.1 hz with h | h
  · obtain ⟨x, _, rfl⟩ := List.mem_map.1 h
    refine ⟨itoa_nosep x, itoa_ne x, fun e => ?_⟩
    unfold itoa at e
    split at e
    · simp at e
    · have := dec_dig x.toNat 99 (by rw [e]; simp)
      revert this; unfold Dig; decide
  · rw [List.mem_singleton] at h; subst h
    exact ⟨by intro b hb; simp at hb; subst hb; unfold NoSep; decide, by simp, by simp⟩
theorem flat_join (q : Nat → Nat) (zss : List (List Int)) : flat (linesW (joinQ q 0 (zss.flatMap clauseW))) = zss.flatMap clauseW := by
  have h0 : Betw ls0 [] := ⟨rfl, .inl rfl, fun _ => rfl, rfl⟩
  have h := Betw.all q (zss.flatMap clauseW) 0 h0 (words_fine zss)
  rw [List.nil_append] at h
  unfold linesW fin
  obtain ⟨h1, h2, h3, h4⟩ := h
  split
  · rw [flat_snoc]
    unfold endW
    rw [h1, if_pos rfl]
    rcases h2 with h2 | h2
    · rw [h2] at h4 ⊢; simpa [isNote] using h4
    · rw [h2]; exact h4
  · rename_i hp
    have := h3 (by simpa using hp)
    rw [this, List.append_nil] at h4
    exact h4
/-- Notes ahead. -/
def preQ (k : Nat) : List UInt8 :=
  match k % 4 with
  | 0 => []
  | 1 => [99, 10]
  | 2 => [10, 10]
  | _ => [32, 10, 99, 32, 53, 32, 53, 32, 53, 10]
theorem pre_state (k : Nat) : ∃ P : List (List Word), (preQ k).foldl feed ls0 = ⟨P, [], [], false⟩ ∧ ∀ ws ∈ P, isNote ws = true := by
  unfold preQ
  split
  · exact ⟨[], rfl, by simp⟩
  · exact ⟨[[[99]]], by simp [feed, endW, ls0], by simp [isNote]⟩
  · exact ⟨[[], []], by simp [feed, endW, ls0], by simp [isNote]⟩
  · exact ⟨[[], [[99], [53], [53], [53]]], by simp [feed, endW, ls0], by simp [isNote]⟩
theorem fold_from (P : List (List Word)) (l : List UInt8) : l.foldl feed ⟨P, [], [], false⟩ = { l.foldl feed ls0 with out := P ++ (l.foldl feed ls0).out } := by
  have := feeds_out P l ls0
  simpa [ls0] using this
theorem fin_from (P : List (List Word)) (s : Ls) : fin { s with out := P ++ s.out } = P ++ fin s := by
  unfold fin endW; simp only; split <;> simp
theorem linesW_blank (k : Nat) (q : Nat → Nat) (v : Int) (zss : List (List Int)) : ∃ P : List (List Word), (∀ ws ∈ P, isNote ws = true) ∧ linesW (preQ k ++ (headT v zss.length ++ joinQ q 0 (zss.flatMap clauseW))) = P ++ headL v zss.length :: linesW (joinQ q 0 (zss.flatMap clauseW)) := by
  obtain ⟨P, hP, hn⟩ := pre_state k
  refine ⟨P, hn, ?_⟩
  unfold linesW
  rw [List.foldl_append, hP, List.foldl_append, fold_from, feed_head]
  rw [fold_from, fin_from]
  simp
theorem odd_le (k : Nat) : (oddT k).length ≤ 14 := by unfold oddT; split <;> simp
theorem pre_le (k : Nat) : (preQ k).length ≤ 10 := by unfold preQ; split <;> simp
theorem joinQ_le (q : Nat → Nat) : ∀ (ws : List Word) (n : Nat), (∀ w ∈ ws, w.length ≤ 21) → (joinQ q n ws).length ≤ 35 * ws.length
  | [], n, _ => by simp [joinQ]
  | w :: t, n, h => by
    have h1 := joinQ_le q t (n + 1) (fun x hx => h x (by simp [hx]))
    have h2 := h w (by simp)
    have h3 := odd_le (q n)
    unfold joinQ
    simp only [List.length_append, List.length_cons]; omega
theorem words_le {zss : List (List Int)} (h : ∀ z ∈ zss, ∀ x ∈ z, I64 x) : ∀ w ∈ zss.flatMap clauseW, w.length ≤ 21 := by
  intro w hw
  obtain ⟨z, hz0, hz⟩ := List.mem_flatMap.1 hw
  unfold clauseW at hz
  rcases List.mem_append.1 hz with h1 | h1
  · obtain ⟨x, hx, rfl⟩ := List.mem_map.1 h1
    exact itoa_length_le x (h z hz0 x hx).1 (h z hz0 x hx).2
  · rw [List.mem_singleton] at h1; subst h1; simp
theorem words_many (n : Nat) : ∀ (zss : List (List Int)), (∀ z ∈ zss, z.length ≤ n) → (zss.flatMap clauseW).length ≤ (n + 1) * zss.length
  | [], _ => by simp
  | z :: t, h => by
    have h1 := words_many n t (fun x hx => h x (by simp [hx]))
    have h2 := h z (by simp)
    rw [List.flatMap_cons, List.length_append, List.length_cons, Nat.mul_add]
    unfold clauseW at h1 ⊢
    rw [List.length_append, List.length_map, List.length_singleton]; omega
/-- The whole. -/
theorem blank_fit {V : Int} (h1 : 1 ≤ V) (h2 : V ≤ 12) {zss : List (List Int)} (hb : fitB zss = true) (k : Nat) (q : Nat → Nat) :
    (headT V (fitL V zss).length ++ joinQ q 0 ((fitL V zss).flatMap clauseW)).length ≤ 30000 ∧
    parseB (preQ k ++ (headT V (fitL V zss).length ++ joinQ q 0 ((fitL V zss).flatMap clauseW))) = ⟨V, fitL V zss, 0, 0⟩ := by
  obtain ⟨hl, hr⟩ := fitB_parts hb
  have hll := fitL_len V zss
  have hi := fitL_i64 h1 h2 (zss := zss)
  have h3 := joinQ_le q ((fitL V zss).flatMap clauseW) 0 (words_le hi)
  have h4 := words_many 20 (fitL V zss) (fun z hz => by
    obtain ⟨y, hy, rfl⟩ := List.mem_map.1 hz
    have := fitZ_le V y
    have := hr y hy
    omega)
  have h5 := (headT_le (V := V) (n := (fitL V zss).length) (by unfold I64; omega) (by omega)).1
  have h6 := pre_le k
  have hlen : (headT V (fitL V zss).length ++ joinQ q 0 ((fitL V zss).flatMap clauseW)).length ≤ 30000 := by rw [List.length_append]; omega
  obtain ⟨P, hP, hlw⟩ := linesW_blank k q V (fitL V zss)
  exact ⟨hlen, parse_of (fitL_ok h1 h2 hb) (by rw [List.length_append]; omega) hlw hP (flat_join q (fitL V zss))⟩
end Go.Proofs.YtkannkalbhmlcaaDoor
