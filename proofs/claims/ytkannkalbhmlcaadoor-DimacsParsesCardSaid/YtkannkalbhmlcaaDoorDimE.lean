/-
  Memory: slices of words; what the reader of a text holds.
-/
import Derived.Test.YtkannkalbhmlcaaDoorDimC
import Derived.Test.YtkannkalbhmlcaaDoorDimD
import Derived.Test.YtkannkalbhmlcaaDoorCnfE
import Derived.RangeFuncOwn
namespace Go.Proofs.YtkannkalbhmlcaaDoor
open Go.RowKit Go.Lib
open Go.RowKit (Below)

/-- A row of words: a block of strings whose first cells are bs. -/
def WordsAt (w : World) (a : Option Addr) (bs : List ByteArray) : Prop :=
  bs.length = 0 ∨ ∃ A cur fr, a = some ⟨A, 0, none⟩ ∧ w.heap[A]? = some (.cells cur 9 fr) ∧ ∀ j, j < bs.length → cur[j]? = some (.string (bs.getD j ⟨#[]⟩))
/-- Rows of strings lie as they lay, and whatever is no cells. -/
def StrRows (w w' : World) : Prop := ∀ (k : Nat) (cur : Array Value) (fr : Nat × Nat), w.heap[k]? = some (.cells cur 9 fr) → w'.heap[k]? = some (.cells cur 9 fr)
def StrKept (w w' : World) : Prop := StrRows w w' ∧ KeepsOthers w w'
theorem StrKept.refl (w : World) : StrKept w w := ⟨fun _ _ _ h => h, KeepsOthers.refl w⟩
theorem StrKept.trans {a b c : World} (h : StrKept a b) (k : StrKept b c) : StrKept a c := ⟨fun i cur fr e => k.1 i cur fr (h.1 i cur fr e), h.2.trans k.2⟩
theorem StrRows.of_below {w w' : World} (h : Below w.heap.size w w') : StrRows w w' := fun k _ _ e => (h.block k (Array.getElem?_eq_some_iff.1 e).1).trans e
theorem StrKept.of_below {w w' : World} (h : Below w.heap.size w w') : StrKept w w' := ⟨StrRows.of_below h, h.size, fun k _ e _ => (h.block k (Array.getElem?_eq_some_iff.1 e).1).trans e⟩
theorem WordsAt.kept {w w' : World} {a : Option Addr} {bs : List ByteArray} (h : WordsAt w a bs) (hk : StrRows w w') : WordsAt w' a bs := by
  rcases h with h | ⟨A, cur, fr, ha, hh, hc⟩
  · exact .inl h
  · exact .inr ⟨A, cur, fr, ha, hk _ _ _ hh, hc⟩
theorem WordsAt.at {w : World} {a : Option Addr} {bs : List ByteArray} (h : WordsAt w a bs) {j : Nat} (hj : j < bs.length) :
    ∃ A s, a = some ⟨A, 0, none⟩ ∧ Hid (bs[j]? = some s) ∧ w.cell? ⟨A, j, none⟩ = some (.string s) := by
  rcases h with h | ⟨A, cur, fr, ha, hh, hc⟩
  · omega
  · refine ⟨A, _, ha, getD_some bs ⟨#[]⟩ j hj, ?_⟩
    simp [World.cell?, hh, hc j hj]
theorem WordsAt.of {w : World} {B n c : Nat} {a : Option Addr} {bs : List ByteArray} (h : w.ownsRow B 9 1 (.slice a n c) bs.length (bs.map Value.string)) : WordsAt w a bs := by
  rcases h.2 with ⟨_, h0⟩ | ⟨g, cap, cur, hv, _, hg, hn, _, hs, ht⟩
  · exact .inl h0
  · injection hv with h1 _ _
    refine .inr ⟨g, cur, _, h1, hg, fun j hj => ?_⟩
    have h3 := congrArg (fun l : List Value => l[j]?) ht
    simp only [List.getElem?_take] at h3
    rw [if_pos (by omega), List.getElem?_map, getD_some bs ⟨#[]⟩ j hj] at h3
    simpa using h3

/-- All rows of cells lie as they lay. -/
def CellsKept (w w' : World) : Prop := ∀ (k : Nat) (cur : Array Value) (t : TypeId) (fr : Nat × Nat), w.heap[k]? = some (.cells cur t fr) → w'.heap[k]? = some (.cells cur t fr)
theorem CellsKept.of_below {w w' : World} (h : Below w.heap.size w w') : CellsKept w w' := fun k _ _ _ e => (h.block k (Array.getElem?_eq_some_iff.1 e).1).trans e

def Sep (u : Value) (vs : List Value) : Prop := ∀ x ∈ vs, ∀ (p : Addr) (n c : Nat), x = .slice (some p) n c → u.ownBlock ≠ some p.block
/-- What the reader holds: its block, the clauses that have ended, the clause that has not. -/
structure RdIn (w : World) (b : Nat) (r : Rd) (v u : Value) (line err : Int) : Prop where
  whole : w.heap[b]? = some (.cells #[.bool r.begun, .int .i64 r.ann, .int .i64 r.vars, v, u, .int .i64 line, .int .i64 err] 53 (0, 0))
  rows : ∃ vs : List Value, w.ownsRow (b + 1) 34 1 v r.cls.length vs ∧ (∀ (j : Nat) (z : List Int), r.cls[j]? = some z → ∃ x : Value, vs[j]? = some x ∧ InRow w (b + 1) v x z) ∧ Sep u vs
  cl : Own w (b + 1) u r.cl
def RdAt (w : World) (b : Nat) (r : Rd) (line err : Int) : Prop := ∃ v u, RdIn w b r v u line err

theorem RdIn.lt {w : World} {b : Nat} {r : Rd} {v u : Value} {line err : Int} (h : RdIn w b r v u line err) : b < w.heap.size := (Array.getElem?_eq_some_iff.1 h.whole).1
theorem RdIn.c0 {w : World} {b : Nat} {r : Rd} {v u : Value} {line err : Int} (h : RdIn w b r v u line err) : w.cell? ⟨b, 0, none⟩ = some (.bool r.begun) := by simp [World.cell?, h.whole]
theorem RdIn.c1 {w : World} {b : Nat} {r : Rd} {v u : Value} {line err : Int} (h : RdIn w b r v u line err) : w.cell? ⟨b, 1, none⟩ = some (.int .i64 r.ann) := by simp [World.cell?, h.whole]
theorem RdIn.c2 {w : World} {b : Nat} {r : Rd} {v u : Value} {line err : Int} (h : RdIn w b r v u line err) : w.cell? ⟨b, 2, none⟩ = some (.int .i64 r.vars) := by simp [World.cell?, h.whole]
theorem RdIn.c3 {w : World} {b : Nat} {r : Rd} {v u : Value} {line err : Int} (h : RdIn w b r v u line err) : w.cell? ⟨b, 3, none⟩ = some v := by simp [World.cell?, h.whole]
theorem RdIn.c4 {w : World} {b : Nat} {r : Rd} {v u : Value} {line err : Int} (h : RdIn w b r v u line err) : w.cell? ⟨b, 4, none⟩ = some u := by simp [World.cell?, h.whole]
theorem RdIn.c5 {w : World} {b : Nat} {r : Rd} {v u : Value} {line err : Int} (h : RdIn w b r v u line err) : w.cell? ⟨b, 5, none⟩ = some (.int .i64 line) := by simp [World.cell?, h.whole]
theorem RdIn.c6 {w : World} {b : Nat} {r : Rd} {v u : Value} {line err : Int} (h : RdIn w b r v u line err) : w.cell? ⟨b, 6, none⟩ = some (.int .i64 err) := by simp [World.cell?, h.whole]
theorem RdIn.free {w : World} {b : Nat} {r : Rd} {v u : Value} {line err : Int} (h : RdIn w b r v u line err) (i : Nat) : w.frozen? ⟨b, i, none⟩ = false := by simp [World.frozen?, h.whole]

theorem ownsRow_kept {w w' : World} {B n : Nat} {e : TypeId} {v : Value} {xs : List Value} (h : w.ownsRow B e 1 v n xs) (hk : CellsKept w w') : w'.ownsRow B e 1 v n xs := by
  refine ⟨h.1, ?_⟩
  rcases h.2 with h2 | ⟨g, cap, cur, h1, h2, h3, h4⟩
  · exact .inl h2
  · exact .inr ⟨g, cap, cur, h1, h2, hk _ _ _ _ h3, h4⟩
theorem cells_of_cell {w : World} {p : Addr} {v : Value} (h : w.cell? p = some v) : ∃ cur t fr, w.heap[p.block]? = some (.cells cur t fr) := by
  unfold World.cell? at h
  cases hh : w.heap[p.block]? with
  | none => rw [hh] at h; simp at h
  | some o =>
    rw [hh] at h
    cases o <;> simp_all
theorem IntsR.kept {w w' : World} {a : Option Addr} {z : List Int} (h : IntsR w a z) (hs : w.heap.size ≤ w'.heap.size) (hk : CellsKept w w') : IntsR w' a z := by
  by_cases h0 : z.length = 0
  · exact .inl h0
  · rcases h with h | ⟨b, off, ha, hsz, hc⟩
    · exact .inl h
    · refine .inr ⟨b, off, ha, Nat.lt_of_lt_of_le hsz hs, fun j hj => ?_⟩
      obtain ⟨cur, t, fr, hh⟩ := cells_of_cell (p := ⟨b, off + j, none⟩) (hc j hj)
      exact (World.cell?_of_block (a := ⟨b, off + j, none⟩) ((hk _ _ _ _ hh).trans hh.symm)).trans (hc j hj)
theorem InRow.kept {w w' : World} {B : Nat} {v u : Value} {z : List Int} (h : InRow w B v u z) (hs : w.heap.size ≤ w'.heap.size) (hk : CellsKept w w') : InRow w' B v u z := by
  obtain ⟨a, c, hu, hi, hp⟩ := h
  exact ⟨a, c, hu, hi.kept hs hk, fun p hp' => by obtain ⟨h1, h2, h3⟩ := hp p hp'; exact ⟨h1, by omega, h3⟩⟩
theorem RdIn.kept {w w' : World} {b : Nat} {r : Rd} {v u : Value} {line err : Int} (h : RdIn w b r v u line err) (hs : w.heap.size ≤ w'.heap.size) (hk : CellsKept w w') : RdIn w' b r v u line err := by
  obtain ⟨vs, h1, h2, h3⟩ := h.rows
  refine ⟨hk _ _ _ _ h.whole, ⟨vs, ownsRow_kept h1 hk, fun j z hz => ?_, h3⟩, ownsRow_kept h.cl hk⟩
  obtain ⟨x, hx, hi⟩ := h2 j z hz
  exact ⟨x, hx, hi.kept hs hk⟩
theorem RdIn.below {w w' : World} {b : Nat} {r : Rd} {v u : Value} {line err : Int} (h : RdIn w b r v u line err) (hb : Below w.heap.size w w') : RdIn w' b r v u line err := h.kept hb.size (CellsKept.of_below hb)

/-- The blocks of both lists bear other types than the reader's and than each other's. -/
theorem own_tag {w : World} {B n : Nat} {e : TypeId} {v : Value} {xs : List Value} (h : w.ownsRow B e 1 v n xs) {g : Nat} (hg : v.ownBlock = some g) : ∃ cur fr, w.heap[g]? = some (.cells cur e fr) := by
  rcases h.2 with ⟨rfl, _⟩ | ⟨g', cap, cur, rfl, _, hh, _⟩
  · simp [Value.ownBlock] at hg
  · simp [Value.ownBlock] at hg; subst hg; exact ⟨cur, _, hh⟩
theorem RdIn.v_ne {w : World} {b : Nat} {r : Rd} {v u : Value} {line err : Int} (h : RdIn w b r v u line err) {g : Nat} (hg : v.ownBlock = some g) : u.ownBlock ≠ some g ∧ b < g := by
  obtain ⟨vs, h1, _, _⟩ := h.rows
  obtain ⟨cur, fr, hh⟩ := own_tag h1 hg
  refine ⟨fun e => ?_, by have := (World.ownsRow.lt h1 g hg).1; omega⟩
  obtain ⟨cur', fr', hh'⟩ := own_tag h.cl e
  rw [hh] at hh'
  simp at hh'
theorem RdIn.u_lt {w : World} {b : Nat} {r : Rd} {v u : Value} {line err : Int} (h : RdIn w b r v u line err) {g : Nat} (hg : u.ownBlock = some g) : b < g ∧ g < w.heap.size := by
  have := World.ownsRow.lt h.cl g hg; omega

/-- A cell of the reader stored anew. -/
def rdCells (r : Rd) (v u : Value) (line err : Int) : Array Value := #[.bool r.begun, .int .i64 r.ann, .int .i64 r.vars, v, u, .int .i64 line, .int .i64 err]
theorem heap_set (w : World) (b i : Nat) (x : Value) (cur : Array Value) (t : TypeId) (fr : Nat × Nat) (h : w.heap[b]? = some (.cells cur t fr)) : (w.setCell ⟨b, i, none⟩ x).heap[b]? = some (.cells (cur.setIfInBounds i x) t fr) := by
  simp [World.setCell, Array.getElem?_modify, h]
theorem RdIn.other {w w' : World} {b : Nat} {r r' : Rd} {v u : Value} {line err line' err' : Int} (h : RdIn w b r v u line err) (hs : w.heap.size ≤ w'.heap.size) (hb : ∀ k, k ≠ b → w'.heap[k]? = w.heap[k]?)
    (hw : w'.heap[b]? = some (.cells (rdCells r' v u line' err') 53 (0, 0))) (h1 : r'.cls = r.cls) (h2 : r'.cl = r.cl) : RdIn w' b r' v u line' err' := by
  obtain ⟨vs, g1, g2, g3⟩ := h.rows
  refine ⟨hw, ?_, ?_⟩
  · rw [h1]
    refine ⟨vs, ownsRow_stays g1 fun k hk _ => hb k (by omega), fun j z hz => ?_, g3⟩
    obtain ⟨x, hx, hi⟩ := g2 j z hz
    exact ⟨x, hx, hi.stays hs fun k hk _ _ => hb k (by omega)⟩
  · rw [h2]; exact ownsRow_stays h.cl fun k hk _ => hb k (by omega)
theorem heap_ne (w : World) (b i k : Nat) (x : Value) (h : k ≠ b) : (w.setCell ⟨b, i, none⟩ x).heap[k]? = w.heap[k]? := by
  exact Below.heap_setCell w ⟨b, i, none⟩ x k h
theorem RdIn.line' {w : World} {b : Nat} {r : Rd} {v u : Value} {line err : Int} (h : RdIn w b r v u line err) (l : Int) : RdIn (w.setCell ⟨b, 5, none⟩ (.int .i64 l)) b r v u l err :=
  h.other (by simp) (fun k hk => heap_ne w b 5 k _ hk) (heap_set w b 5 _ _ _ _ h.whole) rfl rfl
theorem RdIn.err' {w : World} {b : Nat} {r : Rd} {v u : Value} {line err : Int} (h : RdIn w b r v u line err) (l : Int) : RdIn (w.setCell ⟨b, 6, none⟩ (.int .i64 l)) b r v u line l :=
  h.other (by simp) (fun k hk => heap_ne w b 6 k _ hk) (heap_set w b 6 _ _ _ _ h.whole) rfl rfl
theorem StrKept.set {w : World} {b i : Nat} {cur : Array Value} {x : Value} (h : w.heap[b]? = some (.cells cur 53 (0, 0))) : StrKept w (w.setCell ⟨b, i, none⟩ x) := ⟨fun k c fr e => by
  by_cases hk : k = b
  · subst hk; rw [h] at e; simp at e
  · rw [heap_ne _ _ _ _ _ hk]; exact e, KeepsOthers.setCell _ _ _⟩
theorem setBelow (w : World) (b i : Nat) (x : Value) : Below b w (w.setCell ⟨b, i, none⟩ x) := (Below.refl _ _).setCell (p := ⟨b, i, none⟩) (Nat.le_refl _) x
theorem RdIn.first (w : World) (b : Nat) (e : Int) (hb : b = w.heap.size) : RdIn (w.alloc (.cells #[.bool false, .int .i64 0, .int .i64 0, .slice none 0 0, .slice none 0 0, .int .i64 0, .int .i64 e] 53)) b rd0 (.slice none 0 0) (.slice none 0 0) 0 e := by
  subst hb
  exact ⟨heap_alloc_new _ _, ⟨[], World.ownsRow_nil _ _ _ _, fun j z hz => by simp [rd0] at hz, fun x hx => by simp at hx⟩, Own.nil _ _⟩
end Go.Proofs.YtkannkalbhmlcaaDoor
