/-
  Plain words: the text of a formula is parsed back.
-/
import Derived.Test.YtkannkalbhmlcaaDoorDimA
import Derived.Test.YtkannkalbhmlcaaDoorLitB
import Derived.Test.YtkannkalbhmlcaaDoorCnfA
namespace Go.Proofs.YtkannkalbhmlcaaDoor
open Go.Lib

/-! Numerals. -/
def Dig (b : UInt8) : Prop := 48 ≤ b.toNat ∧ b.toNat ≤ 57
theorem dig_ofNat {k : Nat} (h : k < 10) : (UInt8.ofNat (48 + k)).toNat = 48 + k := by simp [UInt8.toNat_ofNat]; omega
theorem dec_dig : ∀ (u : Nat), ∀ b ∈ decDigits u, Dig b := by
  intro u
  induction u using Nat.strongRecOn with
  | _ u ih =>
    intro b hb
    rw [decDigits] at hb
    split at hb
    · rename_i h
      simp only [List.mem_cons, List.not_mem_nil, or_false] at hb
      subst hb; unfold Dig; rw [dig_ofNat h]; omega
    · rename_i h
      simp only [List.mem_append, List.mem_cons, List.not_mem_nil, or_false] at hb
      rcases hb with hb | hb
      · exact ih (u / 10) (by omega) b hb
      · subst hb; unfold Dig; rw [dig_ofNat (by omega)]; omega
theorem dec_head : ∀ (u : Nat), 0 < u → ∃ d t, decDigits u = d :: t ∧ d ≠ 48 := by
  intro u
  induction u using Nat.strongRecOn with
  | _ u ih =>
    intro hu
    rw [decDigits]
    split
    · rename_i h
      refine ⟨_, _, rfl, fun e => ?_⟩
      have := congrArg UInt8.toNat e
      rw [dig_ofNat h] at this
      have h2 : (48 : UInt8).toNat = 48 := rfl
      omega
    · rename_i h
      obtain ⟨d, t, e, hd⟩ := ih (u / 10) (by omega) (by omega)
      exact ⟨d, t ++ [UInt8.ofNat (48 + u % 10)], by rw [e]; rfl, hd⟩
theorem dec_zero : decDigits 0 = [48] := by rw [decDigits, dif_pos (by omega)]; rfl
theorem digs_snoc (c : Nat) : ∀ (l : List UInt8) (x : Nat) (d : UInt8), Dig d → digs c x (l ++ [d]) = (digs c x l).map fun y => min (10 * y + (d.toNat - 48)) c
  | [], x, d, hd => by
    simp only [List.nil_append, digs, Option.map_some]
    unfold Dig at hd
    rw [if_pos hd]
  | u :: t, x, d, hd => by
    simp only [List.cons_append, digs]
    split
    · exact digs_snoc c t _ d hd
    · rfl
theorem digs_dec (c : Nat) : ∀ (u : Nat), digs c 0 (decDigits u) = some (min u c) := by
  intro u
  induction u using Nat.strongRecOn with
  | _ u ih =>
    rw [decDigits]
    split
    · rename_i h
      have hd : Dig (UInt8.ofNat (48 + u)) := by unfold Dig; rw [dig_ofNat h]; omega
      have := digs_snoc c [] 0 _ hd
      rw [List.nil_append] at this
      rw [this, dig_ofNat h]
      simp only [digs, Option.map_some]
      congr 1; omega
    · rename_i h
      have hd : Dig (UInt8.ofNat (48 + u % 10)) := by unfold Dig; rw [dig_ofNat (by omega)]; omega
      rw [digs_snoc c _ _ _ hd, ih (u / 10) (by omega), Option.map_some, dig_ofNat (by omega)]
      congr 1; omega
theorem dec_ne (u : Nat) : decDigits u ≠ [] := by
  by_cases h : u = 0
  · subst h; rw [dec_zero]; simp
  · obtain ⟨d, t, e, _⟩ := dec_head u (by omega); rw [e]; simp
theorem itoa_ne (x : Int) : itoa x ≠ [] := by
  unfold itoa; split
  · simp
  · exact dec_ne _
def NoSep (b : UInt8) : Prop := b ≠ 10 ∧ b ≠ 32 ∧ b ≠ 9
theorem noSep_of_dig {b : UInt8} (h : Dig b) : NoSep b := by
  unfold Dig at h
  refine ⟨?_, ?_, ?_⟩ <;> (intro e; subst e; revert h; decide)
theorem itoa_nosep (x : Int) : ∀ b ∈ itoa x, NoSep b := by
  unfold itoa; split
  · intro b hb
    rcases List.mem_cons.1 hb with rfl | hb
    · unfold NoSep; decide
    · exact noSep_of_dig (dec_dig _ b hb)
  · exact fun b hb => noSep_of_dig (dec_dig _ b hb)
theorem unsign_dec (u : Nat) : unsign (decDigits u) = decDigits u ∧ neg (decDigits u) = false := by
  cases hl : decDigits u with
  | nil => exact ⟨rfl, rfl⟩
  | cons d t =>
    have hd := dec_dig u d (by rw [hl]; simp)
    unfold Dig at hd
    have hne : d ≠ 45 := by intro e; subst e; revert hd; decide
    refine ⟨?_, ?_⟩
    · unfold unsign; split
      · rename_i e; injection e with e1 _; exact absurd e1 hne
      · rfl
    · unfold neg; split
      · rename_i e; injection e with e1 _; exact absurd e1 hne
      · rfl
theorem num_itoa (c : Nat) (hc : 0 < c) (x : Int) : num c (itoa x) = some (clampI c x) := by
  unfold itoa
  split
  · rename_i h
    have hu : unsign (45 :: decDigits x.natAbs) = decDigits x.natAbs := rfl
    have hn : neg (45 :: decDigits x.natAbs) = true := rfl
    unfold num
    rw [hu, hn]
    obtain ⟨d, t, e, hd⟩ := dec_head x.natAbs (by omega)
    rw [e]
    simp only
    rw [if_neg (fun h => hd h.1), ← e, digs_dec]
    simp only [Option.map_some, if_true]
    congr 1; unfold clampI; split <;> (try split) <;> omega
  · rename_i h
    unfold num
    rw [(unsign_dec _).1, (unsign_dec _).2]
    by_cases h0 : x = 0
    · subst h0
      rw [show (0 : Int).toNat = 0 from rfl, dec_zero]
      have hcl : clampI c 0 = 0 := by unfold clampI; split <;> (try split) <;> omega
      rw [hcl]; simp [digs]
    · obtain ⟨d, t, e, hd⟩ := dec_head x.toNat (by omega)
      rw [e]
      simp only
      rw [if_neg (fun h => hd h.1), ← e, digs_dec]
      simp only [Option.map_some, Bool.false_eq_true, if_false]
      congr 1; unfold clampI; split <;> (try split) <;> omega
theorem num_zero (c : Nat) : num c [48] = some 0 := by simp [num, unsign, digs, neg]
theorem clamp_in {c : Nat} {x : Int} (h : -(c : Int) ≤ x ∧ x ≤ c) : clampI c x = x := by unfold clampI; split <;> (try split) <;> omega

/-! The machine over words. -/
theorem feed_run : ∀ (w : Word), (∀ b ∈ w, NoSep b) → ∀ (o : List (List Word)) (l : List Word) (v : Word) (p : Bool), w.foldl feed ⟨o, l, v, p⟩ = ⟨o, l, v ++ w, p || !w.isEmpty⟩
  | [], _, o, l, v, p => by simp
  | b :: t, h, o, l, v, p => by
    obtain ⟨h1, h2, h3⟩ := h b (by simp)
    rw [List.foldl_cons]
    have e : feed ⟨o, l, v, p⟩ b = ⟨o, l, v ++ [b], true⟩ := by unfold feed; rw [if_neg h1, if_neg (by rintro (r | r); exact h2 r; exact h3 r)]
    rw [e, feed_run t (fun x hx => h x (by simp [hx])) o l _ true]
    simp
theorem feed_sp (o : List (List Word)) (l : List Word) (w : Word) (hw : ∀ b ∈ w, NoSep b) (hn : w ≠ []) (p : Bool) : (w ++ [32]).foldl feed ⟨o, l, [], p⟩ = ⟨o, l ++ [w], [], true⟩ := by
  rw [List.foldl_append, feed_run w hw]
  simp [feed, endW, hn]
theorem feed_ends (o : List (List Word)) (l : List Word) (w : Word) (hw : ∀ b ∈ w, NoSep b) (hn : w ≠ []) (p : Bool) : (w ++ [10]).foldl feed ⟨o, l, [], p⟩ = ⟨o ++ [l ++ [w]], [], [], false⟩ := by
  rw [List.foldl_append, feed_run w hw]
  simp [feed, endW, hn]
def clauseW (z : List Int) : List Word := z.map itoa ++ [[48]]
def lits' (z : List Int) : List UInt8 := z.flatMap fun x => itoa x ++ [32]
theorem feed_lits : ∀ (z : List Int) (o : List (List Word)) (l : List Word) (p : Bool), (lits' z).foldl feed ⟨o, l, [], p⟩ = ⟨o, l ++ z.map itoa, [], p || !z.isEmpty⟩
  | [], o, l, p => by simp [lits']
  | x :: t, o, l, p => by
    have h := feed_lits t o (l ++ [itoa x]) true
    unfold lits' at h ⊢
    rw [List.flatMap_cons, List.foldl_append, feed_sp o l _ (itoa_nosep x) (itoa_ne x) p, h]
    simp
theorem feed_clause (z : List Int) (o : List (List Word)) (p : Bool) : (clauseT z).foldl feed ⟨o, [], [], p⟩ = ⟨o ++ [clauseW z], [], [], false⟩ := by
  unfold clauseT
  rw [List.foldl_append]
  have h := feed_lits z o [] p
  unfold lits' at h
  rw [h]
  have := feed_ends o ([] ++ z.map itoa) [48] (by intro b hb; simp at hb; subst hb; unfold NoSep; decide) (by simp) (p || !z.isEmpty)
  rw [show ([48, 10] : List UInt8) = [48] ++ [10] from rfl, this]
  simp [clauseW]
theorem feed_clauses : ∀ (zss : List (List Int)) (o : List (List Word)), (zss.flatMap clauseT).foldl feed ⟨o, [], [], false⟩ = ⟨o ++ zss.map clauseW, [], [], false⟩
  | [], o => by simp
  | z :: t, o => by
    rw [List.flatMap_cons, List.foldl_append, feed_clause, feed_clauses t]
    simp
def headL (v : Int) (k : Nat) : List Word := [[112], [99, 110, 102], itoa v, itoa k]
theorem feed_head (v : Int) (k : Nat) : (headT v k).foldl feed ls0 = ⟨[headL v k], [], [], false⟩ := by
  have e : headT v k = ([112] ++ [32]) ++ (([99, 110, 102] ++ [32]) ++ ((itoa v ++ [32]) ++ (itoa k ++ [10]))) := by unfold headT; simp
  rw [e, List.foldl_append, List.foldl_append, List.foldl_append]
  unfold ls0
  rw [feed_sp [] [] [112] (by intro b hb; simp at hb; subst hb; unfold NoSep; decide) (by simp),
    feed_sp [] _ [99, 110, 102] (by intro b hb; simp at hb; rcases hb with rfl | rfl | rfl <;> (unfold NoSep; decide)) (by simp),
    feed_sp [] _ (itoa v) (itoa_nosep v) (itoa_ne v), feed_ends [] _ (itoa k) (itoa_nosep k) (itoa_ne k)]
  simp [headL]
theorem linesW_form (v : Int) (zss : List (List Int)) : linesW (formT v zss) = headL v zss.length :: zss.map clauseW := by
  unfold linesW formT
  rw [List.foldl_append, feed_head, feed_clauses]
  simp [fin]

/-! What the words after the header make. -/
theorem stepsW_cons (c : Nat) (r : Rd) (w : Word) (t : List Word) : stepsW c r (w :: t) = match stepW c r w with | .error e => .error e | .ok r' => stepsW c r' t := rfl
theorem stepsW_append (c : Nat) : ∀ (ws vs : List Word) (r r' : Rd), stepsW c r ws = .ok r' → stepsW c r (ws ++ vs) = stepsW c r' vs
  | [], vs, r, r', h => by cases h; rfl
  | w :: t, vs, r, r', h => by
    rw [List.cons_append, stepsW_cons]
    rw [stepsW_cons] at h
    cases hs : stepW c r w with
    | error e => rw [hs] at h; cases h
    | ok r1 => rw [hs] at h; exact stepsW_append c t vs r1 r' h
def flat (ls : List (List Word)) : List Word := ls.flatMap fun ws => if isNote ws then [] else ws
theorem stepsW_begun {c : Nat} : ∀ (ws : List Word) {r r' : Rd}, r.begun = true → stepsW c r ws = .ok r' → r'.begun = true
  | [], r, r', hr, h => by cases h; exact hr
  | w :: t, r, r', hr, h => by
    unfold stepsW at h
    cases hs : stepW c r w with
    | error e => rw [hs] at h; cases h
    | ok r1 =>
      rw [hs] at h
      refine stepsW_begun t ?_ h
      unfold stepW at hs
      repeat' split at hs
      all_goals first | (cases hs; exact hr) | (simp at hs)
theorem stepsW_split {c : Nat} : ∀ (ws vs : List Word) {r r' : Rd}, stepsW c r (ws ++ vs) = .ok r' → ∃ q, stepsW c r ws = .ok q ∧ stepsW c q vs = .ok r'
  | [], vs, r, r', h => ⟨r, rfl, h⟩
  | w :: t, vs, r, r', h => by
    rw [List.cons_append, stepsW_cons] at h
    rw [stepsW_cons]
    cases hs : stepW c r w with
    | error e => rw [hs] at h; cases h
    | ok r1 => rw [hs] at h; exact stepsW_split t vs h
theorem runL_flat {c : Nat} : ∀ (ls : List (List Word)) (n : Nat) {r r' : Rd}, r.begun = true → stepsW c r (flat ls) = .ok r' → runL c n r ls = .ok r'
  | [], n, r, r', hr, h => by cases h; rfl
  | ws :: t, n, r, r', hr, h => by
    unfold flat at h
    rw [List.flatMap_cons] at h
    unfold runL
    by_cases hw : isNote ws = true
    · rw [if_pos hw] at h ⊢
      exact runL_flat t _ hr h
    · rw [if_neg hw] at h ⊢
      obtain ⟨q, h1, h2⟩ := stepsW_split _ _ h
      unfold stepL
      rw [if_pos hr, h1]
      exact runL_flat t _ (stepsW_begun ws hr h1) h2
/-- The words of clauses. -/
structure ClOk (v : Int) (z : List Int) : Prop where
  len : z.length ≤ 4096
  lit : ∀ x ∈ z, x ≠ 0 ∧ -v ≤ x ∧ x ≤ v
theorem steps_lits (c : Nat) (v : Int) (hc : v ≤ c) (k : Int) (done : List (List Int)) (hk : (done.length : Int) ≠ k) : ∀ (z cl : List Int), (∀ x ∈ z, x ≠ 0 ∧ -v ≤ x ∧ x ≤ v) → cl.length + z.length ≤ 4096 →
    stepsW c ⟨true, k, v, done, cl⟩ (z.map itoa) = .ok ⟨true, k, v, done, cl ++ z⟩
  | [], cl, _, _ => by simp [stepsW]
  | x :: t, cl, h, hl => by
    obtain ⟨h1, h2, h3⟩ := h x (by simp)
    rw [List.length_cons] at hl
    rw [List.map_cons]
    unfold stepsW stepW
    rw [num_itoa c (by omega), clamp_in (by omega)]
    simp only
    rw [if_neg hk, if_neg h1, if_neg (by omega), if_neg (by omega)]
    simp only
    rw [steps_lits c v hc k done hk t (cl ++ [x]) (fun y hy => h y (by simp [hy])) (by simp; omega)]
    simp
theorem steps_clause (c : Nat) (v : Int) (hc : v ≤ c) (k : Int) (done : List (List Int)) (hk : (done.length : Int) ≠ k) (z : List Int) (hz : ClOk v z) : stepsW c ⟨true, k, v, done, []⟩ (clauseW z) = .ok ⟨true, k, v, done ++ [z], []⟩ := by
  unfold clauseW
  rw [stepsW_append c _ _ _ _ (steps_lits c v hc k done hk z [] hz.lit (by have := hz.len; simp; omega))]
  unfold stepsW stepW
  rw [num_zero]
  simp only
  rw [if_neg hk]
  simp [stepsW]
theorem steps_clauses (c : Nat) (v : Int) (hc : v ≤ c) (k : Int) : ∀ (zss done : List (List Int)), ((done.length + zss.length : Nat) : Int) ≤ k → (∀ z ∈ zss, ClOk v z) → stepsW c ⟨true, k, v, done, []⟩ (zss.flatMap clauseW) = .ok ⟨true, k, v, done ++ zss, []⟩
  | [], done, _, _ => by simp [stepsW]
  | z :: t, done, hk, h => by
    rw [List.length_cons] at hk
    rw [List.flatMap_cons, stepsW_append c _ _ _ _ (steps_clause c v hc k done (by omega) z (h z (by simp))), steps_clauses c v hc k t (done ++ [z]) (by simp; omega) (fun y hy => h y (by simp [hy]))]
    simp
theorem clauseW_note (z : List Int) : isNote (clauseW z) = false := by
  unfold clauseW
  cases z with
  | nil => rfl
  | cons x t =>
    rw [List.map_cons, List.cons_append]
    unfold isNote
    simp only [beq_eq_false_iff_ne]
    intro e
    unfold itoa at e
    split at e
    · simp at e
    · have := dec_dig x.toNat 99 (by rw [e]; simp)
      revert this; unfold Dig; decide
theorem flat_clauses (zss : List (List Int)) : flat (zss.map clauseW) = zss.flatMap clauseW := by
  unfold flat
  rw [List.flatMap_map]
  congr 1
  funext z
  rw [clauseW_note]; rfl
theorem head_ok {c : Nat} {v : Int} {k : Nat} (h0 : 0 ≤ v) (h1 : v ≤ 1048576) (h2 : k ≤ 1048576) (hc : 1048576 ≤ c) : headW c (headL v k) = .ok (v, k) := by
  unfold headW headL
  simp only
  rw [if_pos (by simp), num_itoa c (by omega), num_itoa c (by omega), clamp_in (by omega), clamp_in (by omega)]
  simp only
  rw [if_neg (by omega), if_neg (by omega), if_neg (by omega)]
structure FmOk (v : Int) (zss : List (List Int)) : Prop where
  vars : 0 ≤ v ∧ v ≤ 1048576
  many : zss.length ≤ 1048576
  cls : ∀ z ∈ zss, ClOk v z
/-- A text whose first line is the header of a formula and whose words after it are its clauses' words. -/
theorem parse_of {l : List UInt8} {v : Int} {zss : List (List Int)} {ls0 ls : List (List Word)} (h : FmOk v zss) (hl : l.length ≤ 65536) (hls : linesW l = ls0 ++ headL v zss.length :: ls) (hn : ∀ ws ∈ ls0, isNote ws = true) (hf : flat ls = zss.flatMap clauseW) : parseB l = ⟨v, zss, 0, 0⟩ := by
  have key : ∀ (ls0 : List (List Word)) (n : Nat), (∀ ws ∈ ls0, isNote ws = true) → runL 1048577 n rd0 (ls0 ++ headL v zss.length :: ls) = .ok ⟨true, zss.length, v, zss, []⟩ := by
    intro ls0
    induction ls0 with
    | nil =>
      intro n _
      rw [List.nil_append]
      unfold runL
      have hno : isNote (headL v zss.length) = false := rfl
      rw [if_neg (by rw [hno]; simp)]
      unfold stepL
      rw [if_neg (by simp [rd0]), head_ok h.vars.1 h.vars.2 h.many (by omega)]
      simp only
      refine runL_flat ls (n + 1) rfl ?_
      rw [hf]
      have := steps_clauses 1048577 v (by have := h.vars.2; omega) zss.length zss [] (by simp) h.cls
      simpa [rd0] using this
    | cons a t ih =>
      intro n hn
      rw [List.cons_append]
      unfold runL
      rw [if_pos (hn a (by simp))]
      exact ih (n + 1) fun ws hws => hn ws (by simp [hws])
  unfold parseB parseC
  rw [if_neg (by omega), hls, key ls0 1 hn]
  unfold endR
  simp
theorem parse_form {v : Int} {zss : List (List Int)} (h : FmOk v zss) (hl : (formT v zss).length ≤ 65536) : parseB (formT v zss) = ⟨v, zss, 0, 0⟩ :=
  parse_of (ls0 := []) h hl (linesW_form v zss) (by simp) (flat_clauses zss)
end Go.Proofs.YtkannkalbhmlcaaDoor
