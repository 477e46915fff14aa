/-
  The reference's lines of words: memory and plain steps.
-/
import Derived.Test.YtkannkalbhmlcaaDoorDimR
namespace Go.Proofs.YtkannkalbhmlcaaDoor
open Go.RowKit Go.Lib
open Go.RowKit (Below)

theorem Tryd.info9 : (Tryd.prog.info? 9).map (fun i => (i.zero, i.size, i.bytes)) = some (some (.string ⟨#[]⟩), 1, 16) := by kernel_rfl
theorem Tryd.info35 : (Tryd.prog.info? 35).map (fun i => (i.zero, i.size, i.bytes)) = some (some (.slice none 0 0), 1, 24) := by kernel_rfl
theorem one_string {x : ByteArray} : ∀ u ∈ [Value.string x], u.oneCell' = true := by
  intro u hu; simp at hu; subst hu; rfl

theorem ownsRow_of_block {w w' : World} {B n : Nat} {e : TypeId} {v : Value} {xs : List Value} (h : w.ownsRow B e 1 v n xs) (hb : ∀ g, v.ownBlock = some g → w'.heap[g]? = w.heap[g]?) : w'.ownsRow B e 1 v n xs := by
  refine ⟨h.1, ?_⟩
  rcases h.2 with h2 | ⟨g', cap, cur, h1, h2, h3, h4⟩
  · exact .inl h2
  · exact .inr ⟨g', cap, cur, h1, h2, (hb g' (by rw [h1]; rfl)).trans h3, h4⟩
theorem WordsAt.stays {w w' : World} {a : Option Addr} {bs : List ByteArray} (h : WordsAt w a bs) (hb : ∀ p : Addr, a = some p → w'.heap[p.block]? = w.heap[p.block]?) : WordsAt w' a bs := by
  rcases h with h | ⟨A, cur, fr, ha, hh, hc⟩
  · exact .inl h
  · exact .inr ⟨A, cur, fr, ha, (hb _ ha).trans hh, hc⟩
theorem own_slice {w : World} {B n : Nat} {e : TypeId} {v : Value} {xs : List Value} (h : w.ownsRow B e 1 v n xs) : ∃ a c, v = .slice a n c ∧ ∀ p, a = some p → v.ownBlock = some p.block := by
  rcases h.2 with ⟨rfl, rfl⟩ | ⟨g, cap, cur, rfl, _⟩
  · exact ⟨none, 0, rfl, fun p e => by cases e⟩
  · exact ⟨some ⟨g, 0, none⟩, cap, rfl, fun p e => by cases e; rfl⟩

/-- Rows of words behind a slice of slices: none of their blocks is u's own. -/
def WordRows (w : World) (B : Nat) (u : Value) (vs : List Value) (o : List (List ByteArray)) : Prop :=
  ∀ (j : Nat) (bs : List ByteArray), o[j]? = some bs → ∃ a c, vs[j]? = some (.slice a bs.length c) ∧ WordsAt w a bs ∧ ∀ p, a = some p → B ≤ p.block ∧ p.block < w.heap.size ∧ u.ownBlock ≠ some p.block
structure LnIn (w : World) (B : Nat) (v u : Value) (vs : List Value) (o : List (List ByteArray)) (ln : List ByteArray) : Prop where
  out : w.ownsRow B 35 1 v o.length vs
  rows : WordRows w B u vs o
  line : w.ownsRow B 9 1 u ln.length (ln.map Value.string)
theorem LnIn.apart {w : World} {B : Nat} {v u : Value} {vs : List Value} {o : List (List ByteArray)} {ln : List ByteArray} (h : LnIn w B v u vs o ln) {g : Nat} (hv : v.ownBlock = some g) : u.ownBlock ≠ some g := fun hu => by
  obtain ⟨c1, f1, e1⟩ := own_tag h.out hv
  obtain ⟨c2, f2, e2⟩ := own_tag h.line hu
  rw [e1] at e2
  injection e2 with e3
  injection e3 with _ e4 _
  exact absurd e4 (by decide)
theorem LnIn.push {w w1 : World} {B : Nat} {v u u' : Value} {vs : List Value} {o : List (List ByteArray)} {ln : List ByteArray} {x : ByteArray} {ob : Obj} (h : LnIn w B v u vs o ln) (hg : (w.alloc ob).grownBy w1 u.ownBlock) (hat : u'.ownBlock = u.ownBlock ∨ u'.ownBlock = some (w.alloc ob).heap.size)
    (hown : w1.ownsRow B 9 1 u' (ln.length + 1) (ln.map Value.string ++ [.string x])) : LnIn w1 B v u' vs o (ln ++ [x]) := by
  have hst : ∀ k, k < w.heap.size → u.ownBlock ≠ some k → w1.heap[k]? = w.heap[k]? := fun k hk hu => (hg.block k (by simp; omega) (fun e => hu e.symm)).trans (Below.heap_alloc _ _ _ hk)
  refine ⟨ownsRow_of_block h.out fun g hv => hst g (World.ownsRow.lt h.out g hv).2 (h.apart hv), fun j bs hj => ?_, ?_⟩
  · obtain ⟨a, c, h1, h2, h3⟩ := h.rows j bs hj
    refine ⟨a, c, h1, h2.stays fun p e => ?_, fun p e => ?_⟩
    · obtain ⟨_, g2, g3⟩ := h3 p e; exact hst _ g2 g3
    · obtain ⟨g1, g2, g3⟩ := h3 p e
      refine ⟨g1, by have := hg.size; simp at this; omega, ?_⟩
      rcases hat with h | h
      · rw [h]; exact g3
      · rw [h]; intro e; injection e with e; simp at e; omega
  · rw [List.map_append, List.length_append]; exact hown
theorem LnIn.close {w w1 : World} {B : Nat} {v v' : Value} {vs : List Value} {o : List (List ByteArray)} {ln : List ByteArray} {a : Option Addr} {c : Nat} {ob : Obj} (h : LnIn w B v (.slice a ln.length c) vs o ln) (hg : (w.alloc ob).grownBy w1 v.ownBlock)
    (hown : w1.ownsRow B 35 1 v' (o.length + 1) (vs ++ [.slice a ln.length c])) : LnIn w1 B v' (.slice none 0 0) (vs ++ [.slice a ln.length c]) (o ++ [ln]) [] := by
  have hvl : vs.length = o.length := by have := h.out.1; omega
  have hsz : w.heap.size ≤ w1.heap.size := by have := hg.size; simp at this; omega
  have hst : StrRows w w1 := fun k cur fr e => by
    have hk := (Array.getElem?_eq_some_iff.1 e).1
    refine ((hg.block k (by simp; omega) (fun e' => ?_)).trans (Below.heap_alloc _ _ _ hk)).trans e
    obtain ⟨c1, f1, e1⟩ := own_tag h.out e'.symm
    rw [e] at e1
    injection e1 with e3
    injection e3 with _ e4 _
    exact absurd e4 (by decide)
  refine ⟨by rw [List.length_append]; exact hown, fun j bs hj => ?_, World.ownsRow_nil _ _ _ _⟩
  by_cases hjl : j < o.length
  · rw [List.getElem?_append_left hjl] at hj
    obtain ⟨a', c', h1, h2, h3⟩ := h.rows j bs hj
    exact ⟨a', c', by rw [List.getElem?_append_left (by omega)]; exact h1, h2.kept hst, fun p e => ⟨(h3 p e).1, Nat.lt_of_lt_of_le (h3 p e).2.1 hsz, by simp [Value.ownBlock]⟩⟩
  · have hje : j = o.length := by have := (List.getElem?_eq_some_iff.1 hj).1; simp at this; omega
    subst hje
    rw [List.getElem?_append_right (Nat.le_refl _), Nat.sub_self] at hj
    simp at hj
    subst hj
    refine ⟨a, c, by rw [List.getElem?_append_right (by omega), hvl, Nat.sub_self]; rfl, (WordsAt.of h.line).kept hst, fun p e => ?_⟩
    subst e
    have := World.ownsRow.lt h.line p.block rfl
    exact ⟨this.1, by omega, by simp [Value.ownBlock]⟩
theorem LnIn.first (w : World) (B : Nat) : LnIn w B (.slice none 0 0) (.slice none 0 0) [] [] [] := ⟨World.ownsRow_nil _ _ _ _, fun j bs h => by simp at h, World.ownsRow_nil _ _ _ _⟩
theorem LnIn.alloc {w : World} {B : Nat} {v u : Value} {vs : List Value} {o : List (List ByteArray)} {ln : List ByteArray} (h : LnIn w B v u vs o ln) : ∃ a c d b, v = .slice a o.length c ∧ u = .slice d ln.length b := by
  obtain ⟨a, c, h1, _⟩ := own_slice h.out
  obtain ⟨d, b, h2, _⟩ := own_slice h.line
  exact ⟨a, c, d, b, h1, h2⟩

/-! Plain steps. -/
def StateAt (l : List UInt8) (o : List (List ByteArray)) (ln : List ByteArray) (wd : ByteArray) : Prop :=
  ∃ p, l.foldl feed ls0 = ⟨o.map fun bs => bs.map W8, ln.map W8, W8 wd, p⟩
def lineOf (ln : List ByteArray) (wd : ByteArray) : List ByteArray := if W8 wd = [] then ln else ln ++ [wd]
theorem lineOf_end (o : List (List Word)) (ln : List ByteArray) (wd : ByteArray) (p : Bool) : endW ⟨o, ln.map W8, W8 wd, p⟩ = (lineOf ln wd).map W8 := by
  unfold endW lineOf; simp only; split <;> simp
theorem state_snoc {l : List UInt8} {k : Nat} {b : UInt8} (hb : l[k]? = some b) : (l.take (k + 1)).foldl feed ls0 = feed ((l.take k).foldl feed ls0) b := by
  obtain ⟨h1, h2⟩ := List.getElem?_eq_some_iff.1 hb
  rw [List.take_succ_eq_append_getElem h1, List.foldl_append, h2]; rfl
theorem StateAt.letter {l : List UInt8} {k : Nat} {b : UInt8} {o : List (List ByteArray)} {ln : List ByteArray} {P : List UInt8} (h : StateAt (l.take k) o ln (str P)) (hb : l[k]? = some b) (hn : NoSep b) : StateAt (l.take (k + 1)) o ln (str (P ++ [b])) := by
  obtain ⟨p, h⟩ := h
  refine ⟨true, ?_⟩
  rw [state_snoc hb, h]
  unfold feed
  rw [if_neg hn.1, if_neg (by rintro (r | r); exact hn.2.1 r; exact hn.2.2 r)]
  rfl
theorem StateAt.blank {l : List UInt8} {k : Nat} {b : UInt8} {o : List (List ByteArray)} {ln : List ByteArray} {wd : ByteArray} (h : StateAt (l.take k) o ln wd) (hb : l[k]? = some b) (hn : b = 32 ∨ b = 9) : StateAt (l.take (k + 1)) o (lineOf ln wd) (str []) := by
  obtain ⟨p, h⟩ := h
  refine ⟨true, ?_⟩
  rw [state_snoc hb, h]
  unfold feed
  rw [if_neg (by rcases hn with rfl | rfl <;> decide), if_pos hn, lineOf_end]
  rfl
theorem StateAt.ends {l : List UInt8} {k : Nat} {o : List (List ByteArray)} {ln : List ByteArray} {wd : ByteArray} (h : StateAt (l.take k) o ln wd) (hb : l[k]? = some 10) : StateAt (l.take (k + 1)) (o ++ [lineOf ln wd]) [] (str []) := by
  obtain ⟨p, h⟩ := h
  refine ⟨false, ?_⟩
  rw [state_snoc hb, h]
  unfold feed
  rw [if_pos rfl, lineOf_end]
  simp [str, W8]
theorem pend_last (l : List UInt8) (c : UInt8) : ((l ++ [c]).foldl feed ls0).pend = (c != 10) := by
  rw [List.foldl_append, List.foldl_cons, List.foldl_nil]
  unfold feed
  by_cases h : c = 10
  · subst h; simp
  · rw [if_neg h]; split <;> simp [h]
theorem StateAt.last {l : List UInt8} {o : List (List ByteArray)} {ln : List ByteArray} {wd : ByteArray} (h : StateAt l o ln wd) : (l = [] → linesW l = o.map fun bs => bs.map W8) ∧ (∀ t c, l = t ++ [c] → c = 10 → linesW l = o.map fun bs => bs.map W8) ∧
    (∀ t c, l = t ++ [c] → c ≠ 10 → linesW l = (o ++ [lineOf ln wd]).map fun bs => bs.map W8) := by
  obtain ⟨p, h⟩ := h
  have e : linesW l = if p then (o ++ [lineOf ln wd]).map (fun bs => bs.map W8) else o.map fun bs => bs.map W8 := by
    unfold linesW fin
    rw [h]
    simp only
    rw [lineOf_end]
    split <;> simp
  refine ⟨fun h0 => ?_, fun t c h0 hc => ?_, fun t c h0 hc => ?_⟩
  · subst h0
    have : p = false := by have := congrArg Ls.pend h; exact this.symm
    rw [e, this]; rfl
  · have hp := pend_last t c
    rw [← h0, h] at hp
    rw [e, show p = (c != 10) from hp, hc]; rfl
  · have hp := pend_last t c
    rw [← h0, h] at hp
    have : p = true := by rw [show p = (c != 10) from hp]; simpa using hc
    rw [e, this]; rfl
end Go.Proofs.YtkannkalbhmlcaaDoor
