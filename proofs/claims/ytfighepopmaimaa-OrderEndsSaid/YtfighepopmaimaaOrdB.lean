/-
  What the memory of a queue holds, and behind each kind of write.
-/
import Derived.Test.YtfighepopmaimaaOrdA
import Derived.Test.YtfighepopmaimaaProg
import Derived.WalkKit
import Derived.Lib.Hide
import Derived.Deep.AppendLies
import Derived.BigQuiet
import Derived.Deep.QuietTactic
import Derived.StillTailTactics
import Derived.BigRegion
import Derived.RegionTactic
import Derived.ChangeAlike
import Derived.Deep.RegionHeld3
import Derived.Outline
namespace Go.Proofs.Ytfighepopmaimaa
open Go.RowKit Go.Lib
open Go.RowKit (Below)

theorem getD_some {α : Type} (zs : List α) (d : α) (k : Nat) (hk : k < zs.length) : zs[k]? = some (zs.getD k d) := by
  simp [List.getD, List.getElem?_eq_getElem hk]
theorem ret_bool {a b : Bool} (h : a = b) : Ending.returned (.bool a) = Ending.returned (.bool b) := by rw [h]
theorem ret_int {k : IntKind} {a b : Int} (h : a = b) : Ending.returned (.int k a) = .returned (.int k b) := by rw [h]
def QuietTo (w w' : World) : Prop := ∃ q, w' = w.drewN q
theorem quietBelow {w w' : World} (h : QuietTo w w') (B : Nat) : Below B w w' := by
  obtain ⟨q, rfl⟩ := h
  exact ⟨rfl, rfl, rfl, Nat.le_refl _, fun _ _ => rfl⟩
theorem boxed (w : World) (o : Obj) : Below w.heap.size w (w.alloc o) := (Below.refl _ _).alloc (Nat.le_refl _) _
theorem setCell_block (w : World) (p : Addr) (u : Value) {k : Nat} (h : k ≠ p.block) : (w.setCell p u).heap[k]? = w.heap[k]? := Below.heap_setCell w p u k h
theorem bcell {W w1 : World} (hb : Below W.heap.size W w1) : (∀ b o, b < W.heap.size → w1.cell? ⟨b, o, none⟩ = W.cell? ⟨b, o, none⟩) ∧ (∀ b o, b < W.heap.size → w1.frozen? ⟨b, o, none⟩ = W.frozen? ⟨b, o, none⟩) :=
  ⟨fun b o h => hb.cell (p := ⟨b, o, none⟩) h, fun b o h => hb.frozen (p := ⟨b, o, none⟩) h⟩

/-! A block of cells that is known whole. -/
def Blk (w : World) (b : Nat) (t : TypeId) (xs : List Value) : Prop := w.heap[b]? = some (.cells xs.toArray t (0, 0))
section
variable {w w' : World} {b : Nat} {t : TypeId} {xs : List Value}
theorem Blk.cell (h : Blk w b t xs) {i : Nat} {v : Value} (hi : xs[i]? = some v) : w.cell? ⟨b, i, none⟩ = some v := by
  unfold Blk at h; simp [World.cell?, h, hi]
theorem Blk.free (h : Blk w b t xs) (i : Nat) : w.frozen? ⟨b, i, none⟩ = false := by unfold Blk at h; simp [World.frozen?, h]
theorem Blk.lt (h : Blk w b t xs) : b < w.heap.size := (Array.getElem?_eq_some_iff.1 h).1
theorem Blk.of (h : Blk w b t xs) (hb : w'.heap[b]? = w.heap[b]?) : Blk w' b t xs := hb.trans h
theorem Blk.new (w : World) (xs : List Value) (t : TypeId) : Blk (w.alloc (.cells xs.toArray t)) w.heap.size t xs := heap_alloc_new _ _
theorem Blk.set (h : Blk w b t xs) (i : Nat) (u : Value) : Blk (w.setCell ⟨b, i, none⟩ u) b t (xs.set i u) := by
  unfold Blk at h ⊢; simp [World.setCell, Array.getElem?_modify, h]
end

/-! Rows of the call's own that begin at the head of a block. -/
theorem rowStays {w w' : World} {B n size : Nat} {e : TypeId} {v : Value} {xs : List Value} (h : w.ownsRow B e size v n xs) (hb : ∀ g, v.ownBlock = some g → B ≤ g → w'.heap[g]? = w.heap[g]?) : w'.ownsRow B e size v n xs := by
  refine ⟨h.1, ?_⟩
  rcases h.2 with h2 | ⟨g, cap, cur, h1, h2, h3, h4⟩
  · exact .inl h2
  · exact .inr ⟨g, cap, cur, h1, h2, (hb g (by rw [h1]; rfl) h2).trans h3, h4⟩
/-- A row with a block: n elements of a size, its room. -/
def Row (w : World) (e : TypeId) (size g n cap : Nat) (xs : List Value) : Prop := w.ownsRow 0 e size (.slice (some ⟨g, 0, none⟩) n cap) n xs
section
variable {w w' : World} {e : TypeId} {size g n cap : Nat} {xs : List Value}
theorem Row.cell (h : Row w e size g n cap xs) {i : Nat} {u : Value} (hi : xs[i]? = some u) : w.cell? ⟨g, i, none⟩ = some u := by
  rw [World.ownsRow.cellAt h i (by have := (List.getElem?_eq_some_iff.1 hi).1; have := h.1; omega)]; exact hi
theorem Row.free (h : Row w e size g n cap xs) (i : Nat) : w.frozen? ⟨g, i, none⟩ = false := World.ownsRow.frozenAt h i
theorem Row.of (h : Row w e size g n cap xs) (hb : w'.heap[g]? = w.heap[g]?) : Row w' e size g n cap xs := by
  refine ⟨h.1, ?_⟩
  rcases h.2 with h2 | ⟨g', cap', cur, h1, h2, h3, h4⟩
  · exact .inl h2
  · cases h1; exact .inr ⟨g, cap, cur, rfl, h2, hb.trans h3, h4⟩
theorem Row.set (h : Row w e size g n cap xs) (i : Nat) (u : Value) : Row (w.setCell ⟨g, i, none⟩ u) e size g n cap (xs.set i u) := (World.ownsRow.stored h i u).1
theorem Row.lt (h : Row w e size g n cap xs) : g < w.heap.size := (World.ownsRow.lt h g rfl).2
theorem Row.room (h : Row w e size g n cap xs) : n ≤ cap ∧ cap ≤ maxLen := by
  rcases h.2 with ⟨h2, _⟩ | ⟨g', cap', cur, h1, h2, h3, h4, h5, _⟩
  · cases h2
  · cases h1; exact ⟨h4, h5⟩
theorem Row.take (h : Row w e size g n cap xs) {k : Nat} (hk : k ≤ n) : Row w e size g k cap (xs.take (k * size)) := by
  have hm : k * size ≤ n * size := Nat.mul_le_mul_right _ hk
  refine ⟨by rw [List.length_take, h.1]; omega, ?_⟩
  rcases h.2 with ⟨h2, _⟩ | ⟨g', cap', cur, h1, h2, h3, h4, h5, h6, h7⟩
  · cases h2
  · cases h1
    exact .inr ⟨g, cap, cur, rfl, h2, h3, by omega, h5, h6, by rw [← h7, List.take_take, Nat.min_eq_left hm]⟩
theorem Row.made (w : World) (cs : List Value) (n : Nat) (hm : n ≤ maxLen) (hs : cs.length = n * size) : Row (w.alloc (.cells cs.toArray e)) e size w.heap.size n n cs := by
  have := World.ownsRow_lit (e := e) (base := 0) (size := size) w cs.toArray n (Nat.zero_le _) hm (by simpa using hs)
  unfold Row; simpa using this
end

/-- Only these blocks, and new ones, may have changed. -/
structure Touch (fs : List Nat) (w w' : World) : Prop where
  os : w'.os = w.os
  tape : w'.tape = w.tape
  output : w'.output = w.output
  size : w.heap.size ≤ w'.heap.size
  block : ∀ b, b < w.heap.size → b ∉ fs → w'.heap[b]? = w.heap[b]?
namespace Touch
theorem refl (fs : List Nat) (w : World) : Touch fs w w := ⟨rfl, rfl, rfl, Nat.le_refl _, fun _ _ _ => rfl⟩
theorem trans {fs : List Nat} {a b c : World} (h : Touch fs a b) (k : Touch fs b c) : Touch fs a c :=
  ⟨k.os.trans h.os, k.tape.trans h.tape, k.output.trans h.output, Nat.le_trans h.size k.size, fun i hi hf => (k.block i (Nat.lt_of_lt_of_le hi h.size) hf).trans (h.block i hi hf)⟩
/-- The second step touches what the first one left: blocks of the list, or new ones. -/
theorem then_ {fs fs' : List Nat} {a b c : World} (h : Touch fs a b) (hn : ∀ g, g ∈ fs' → g ∈ fs ∨ a.heap.size ≤ g) (k : Touch fs' b c) : Touch fs a c :=
  ⟨k.os.trans h.os, k.tape.trans h.tape, k.output.trans h.output, Nat.le_trans h.size k.size, fun i hi hf => (k.block i (Nat.lt_of_lt_of_le hi h.size) (fun hm => by
    rcases hn i hm with h1 | h1
    · exact hf h1
    · omega)).trans (h.block i hi hf)⟩
theorem mono {fs fs' : List Nat} {w w' : World} (h : Touch fs w w') (hs : ∀ g, g ∈ fs → g ∈ fs') : Touch fs' w w' := ⟨h.os, h.tape, h.output, h.size, fun b hb hf => h.block b hb fun hm => hf (hs b hm)⟩
theorem quiet {w w' : World} (h : QuietTo w w') (fs : List Nat) : Touch fs w w' := by obtain ⟨q, rfl⟩ := h; exact ⟨rfl, rfl, rfl, Nat.le_refl _, fun _ _ _ => rfl⟩
theorem of_below {w w' : World} (h : Below w.heap.size w w') (fs : List Nat) : Touch fs w w' := ⟨h.os, h.tape, h.output, h.size, fun b hb _ => h.block b hb⟩
theorem setCell {fs : List Nat} {w : World} {p : Addr} (u : Value) (hp : p.block ∈ fs) : Touch fs w (w.setCell p u) := ⟨rfl, rfl, rfl, by simp, fun b _ hf => setCell_block w p u fun e => hf (e ▸ hp)⟩
theorem below {fs : List Nat} {w w' : World} {B : Nat} (h : Touch fs w w') (hf : ∀ g, g ∈ fs → B ≤ g) (hB : B ≤ w.heap.size) : Below B w w' := ⟨h.os, h.tape, h.output, h.size, fun b hb => h.block b (by omega) fun hm => by have := hf b hm; omega⟩
end Touch

/-! The queue. -/
def keyC (act vr : Nat → Int) (n : Nat) : List Value := (List.range (n * 2)).map fun j => if j % 2 = 0 then .int .i64 (act (j / 2)) else .int .i64 (vr (j / 2))
def numC (f : Nat → Int) (n : Nat) : List Value := (List.range n).map fun j => .int .i64 (f j)
def treeC (l : List Nat) : List Value := l.map fun (e : Nat) => .int .i64 (e : Int)
theorem keyC_len (act vr : Nat → Int) (n : Nat) : (keyC act vr n).length = n * 2 := by simp [keyC]
theorem numC_len (f : Nat → Int) (n : Nat) : (numC f n).length = n := by simp [numC]
theorem treeC_len (l : List Nat) : (treeC l).length = l.length := by simp [treeC]
theorem keyC_act (act vr : Nat → Int) {n e : Nat} (h : e < n) : (keyC act vr n)[e * 2]? = some (.int .i64 (act e)) := by
  unfold keyC; rw [List.getElem?_map, List.getElem?_range (by omega)]
  simp only [Option.map_some]; rw [if_pos (by omega), Nat.mul_div_cancel _ (by decide)]
theorem keyC_var (act vr : Nat → Int) {n e : Nat} (h : e < n) : (keyC act vr n)[e * 2 + 1]? = some (.int .i64 (vr e)) := by
  unfold keyC; rw [List.getElem?_map, List.getElem?_range (by omega)]
  simp only [Option.map_some]; rw [if_neg (by omega), show (e * 2 + 1) / 2 = e by omega]
theorem numC_at (f : Nat → Int) {n e : Nat} (h : e < n) : (numC f n)[e]? = some (.int .i64 (f e)) := by
  unfold numC; rw [List.getElem?_map, List.getElem?_range h]; rfl
theorem treeC_at {l : List Nat} {i : Nat} (h : i < l.length) : (treeC l)[i]? = some (.int .i64 ((l.getD i 0 : Nat) : Int)) := by
  unfold treeC; rw [List.getElem?_map, getD_some l 0 i h]; rfl
theorem range_map_set {α : Type} (f f' : Nat → α) (n k : Nat) (u : α) (hk : k < n → f' k = u) (h : ∀ j, j ≠ k → f' j = f j) : ((List.range n).map f).set k u = (List.range n).map f' := by
  refine List.ext_getElem? fun i => ?_
  rw [List.getElem?_set, List.getElem?_map, List.getElem?_map, List.length_map, List.length_range]
  by_cases hi : k = i
  · subst hi
    rw [if_pos rfl]
    by_cases hn : k < n
    · rw [if_pos hn, List.getElem?_range hn]; simp [hk hn]
    · rw [if_neg hn, List.getElem?_eq_none (by simp; omega)]; rfl
  · rw [if_neg hi]
    by_cases hn : i < n
    · rw [List.getElem?_range hn]; simp [h i (Ne.symm hi)]
    · rw [List.getElem?_eq_none (by simp; omega)]; rfl
theorem keyC_setAct (act vr : Nat → Int) (n e : Nat) (x : Int) : (keyC act vr n).set (e * 2) (.int .i64 x) = keyC (upN act e x) vr n := by
  unfold keyC
  refine range_map_set _ _ _ _ _ (fun _ => ?_) (fun j hj => ?_)
  · rw [if_pos (by omega), Nat.mul_div_cancel _ (by decide), upN_same]
  · by_cases h : j % 2 = 0
    · rw [if_pos h, if_pos h, upN_other _ _ (by omega)]
    · rw [if_neg h, if_neg h]
theorem keyC_setVar (act vr : Nat → Int) (n e : Nat) (x : Int) : (keyC act vr n).set (e * 2 + 1) (.int .i64 x) = keyC act (upN vr e x) n := by
  unfold keyC
  refine range_map_set _ _ _ _ _ (fun _ => ?_) (fun j hj => ?_)
  · rw [if_neg (by omega), show (e * 2 + 1) / 2 = e by omega, upN_same]
  · by_cases h : j % 2 = 0
    · rw [if_pos h, if_pos h]
    · rw [if_neg h, if_neg h, upN_other _ _ (by omega)]
theorem numC_set (f : Nat → Int) (n e : Nat) (x : Int) : (numC f n).set e (.int .i64 x) = numC (upN f e x) n := by
  unfold numC
  exact range_map_set _ _ _ _ _ (fun _ => by rw [upN_same]) (fun j hj => by rw [upN_other _ _ hj])
theorem treeC_set (l : List Nat) (i e : Nat) : (treeC l).set i (.int .i64 (e : Int)) = treeC (l.set i e) := by
  unfold treeC; rw [List.map_set]

/-- Where it lies. -/
structure Mq where
  gb : Nat
  kb : Nat
  tb : Nat
  pb : Nat
  kc : Nat
  tc : Nat
  pc : Nat
def Mq.foot (m : Mq) : List Nat := [m.gb, m.kb, m.tb, m.pb]
def qCells (m : Mq) (Q : Qs) : List Value := [.func (.func 30) #[] #[], .slice (some ⟨m.kb, 0, none⟩) Q.n m.kc, .slice (some ⟨m.tb, 0, none⟩) Q.tree.length m.tc, .slice (some ⟨m.pb, 0, none⟩) Q.n m.pc]
structure QR (T : TypeId) (m : Mq) (Q : Qs) (w : World) : Prop where
  d1 : m.gb ≠ m.kb
  d2 : m.gb ≠ m.tb
  d3 : m.gb ≠ m.pb
  d4 : m.kb ≠ m.tb
  d5 : m.kb ≠ m.pb
  d6 : m.tb ≠ m.pb
  few : Q.n ≤ 1048576
  blk : Blk w m.gb T (qCells m Q)
  keys : Row w 57 2 m.kb Q.n m.kc (keyC Q.act (fun e => (e : Int) + 1) Q.n)
  tree : Row w 3 1 m.tb Q.tree.length m.tc (treeC Q.tree)
  pls : Row w 3 1 m.pb Q.n m.pc (numC Q.pl Q.n)
section
variable {T : TypeId} {m : Mq} {Q : Qs} {w w' : World}
theorem QR.foot (h : QR T m Q w) : ∀ g, g ∈ m.foot → g < w.heap.size := by
  intro g hg
  simp only [Mq.foot, List.mem_cons, List.not_mem_nil, or_false] at hg
  rcases hg with rfl | rfl | rfl | rfl
  · exact h.blk.lt
  · exact h.keys.lt
  · exact h.tree.lt
  · exact h.pls.lt
theorem QR.stays (h : QR T m Q w) (hb : ∀ g, g ∈ m.foot → w'.heap[g]? = w.heap[g]?) : QR T m Q w' :=
  ⟨h.d1, h.d2, h.d3, h.d4, h.d5, h.d6, h.few, h.blk.of (hb _ (by simp [Mq.foot])), h.keys.of (hb _ (by simp [Mq.foot])), h.tree.of (hb _ (by simp [Mq.foot])), h.pls.of (hb _ (by simp [Mq.foot]))⟩
theorem QR.below (h : QR T m Q w) (hb : Below w.heap.size w w') : QR T m Q w' := h.stays fun g hg => hb.block g (h.foot g hg)
theorem QR.apart (h : QR T m Q w) {fs : List Nat} (ht : Touch fs w w') (hf : ∀ g, g ∈ m.foot → g ∉ fs) : QR T m Q w' := h.stays fun g hg => ht.block g (h.foot g hg) (hf g hg)
theorem QR.c0 (h : QR T m Q w) : w.cell? ⟨m.gb, 0, none⟩ = some (.func (.func 30) #[] #[]) := h.blk.cell rfl
theorem QR.c1 (h : QR T m Q w) : w.cell? ⟨m.gb, 1, none⟩ = some (.slice (some ⟨m.kb, 0, none⟩) Q.n m.kc) := h.blk.cell rfl
theorem QR.c2 (h : QR T m Q w) : w.cell? ⟨m.gb, 2, none⟩ = some (.slice (some ⟨m.tb, 0, none⟩) Q.tree.length m.tc) := h.blk.cell rfl
theorem QR.c3 (h : QR T m Q w) : w.cell? ⟨m.gb, 3, none⟩ = some (.slice (some ⟨m.pb, 0, none⟩) Q.n m.pc) := h.blk.cell rfl
theorem QR.ka (h : QR T m Q w) {e : Nat} (he : e < Q.n) : w.cell? ⟨m.kb, e * 2, none⟩ = some (.int .i64 (Q.act e)) := h.keys.cell (keyC_act _ _ he)
theorem QR.kv (h : QR T m Q w) {e : Nat} (he : e < Q.n) : w.cell? ⟨m.kb, e * 2 + 1, none⟩ = some (.int .i64 ((e : Int) + 1)) := h.keys.cell (keyC_var _ _ he)
theorem QR.ta (h : QR T m Q w) {i : Nat} (hi : i < Q.tree.length) : w.cell? ⟨m.tb, i, none⟩ = some (.int .i64 ((Q.at_ i : Nat) : Int)) := h.tree.cell (treeC_at hi)
theorem QR.pa (h : QR T m Q w) {e : Nat} (he : e < Q.n) : w.cell? ⟨m.pb, e, none⟩ = some (.int .i64 (Q.pl e)) := h.pls.cell (numC_at _ he)
/-- One of its blocks changes. -/
theorem QR.setKey (h : QR T m Q w) (e : Nat) (x : Int) : QR T m { Q with act := upN Q.act e x } (w.setCell ⟨m.kb, e * 2, none⟩ (.int .i64 x)) := by
  have hst : ∀ b, b ≠ m.kb → (w.setCell ⟨m.kb, e * 2, none⟩ (.int .i64 x)).heap[b]? = w.heap[b]? := fun b hb => setCell_block w _ _ hb
  refine ⟨h.d1, h.d2, h.d3, h.d4, h.d5, h.d6, h.few, h.blk.of (hst _ h.d1), ?_, h.tree.of (hst _ (Ne.symm h.d4)), h.pls.of (hst _ (Ne.symm h.d5))⟩
  have := h.keys.set (e * 2) (.int .i64 x); rw [keyC_setAct] at this; exact this
theorem QR.setVar (h : QR T m Q w) (e : Nat) : QR T m Q (w.setCell ⟨m.kb, e * 2 + 1, none⟩ (.int .i64 ((e : Int) + 1))) := by
  have hst : ∀ b, b ≠ m.kb → (w.setCell ⟨m.kb, e * 2 + 1, none⟩ (.int .i64 ((e : Int) + 1))).heap[b]? = w.heap[b]? := fun b hb => setCell_block w _ _ hb
  refine ⟨h.d1, h.d2, h.d3, h.d4, h.d5, h.d6, h.few, h.blk.of (hst _ h.d1), ?_, h.tree.of (hst _ (Ne.symm h.d4)), h.pls.of (hst _ (Ne.symm h.d5))⟩
  have := h.keys.set (e * 2 + 1) (.int .i64 ((e : Int) + 1)); rw [keyC_setVar] at this
  have he : upN (fun j : Nat => (j : Int) + 1) e ((e : Int) + 1) = fun (j : Nat) => (j : Int) + 1 := by funext j; unfold upN; split <;> simp_all
  rw [he] at this; exact this
theorem QR.setTree (h : QR T m Q w) (i e : Nat) : QR T m { Q with tree := Q.tree.set i e } (w.setCell ⟨m.tb, i, none⟩ (.int .i64 (e : Int))) := by
  have hst : ∀ b, b ≠ m.tb → (w.setCell ⟨m.tb, i, none⟩ (.int .i64 (e : Int))).heap[b]? = w.heap[b]? := fun b hb => setCell_block w _ _ hb
  refine ⟨h.d1, h.d2, h.d3, h.d4, h.d5, h.d6, h.few, ?_, h.keys.of (hst _ h.d4), ?_, h.pls.of (hst _ (Ne.symm h.d6))⟩
  · have := h.blk.of (hst _ h.d2); unfold qCells at this ⊢; dsimp only; rw [List.length_set]; exact this
  · have := h.tree.set i (.int .i64 (e : Int)); rw [treeC_set] at this; dsimp only; rw [List.length_set]; exact this
theorem QR.setPl (h : QR T m Q w) (e : Nat) (x : Int) : QR T m { Q with pl := upN Q.pl e x } (w.setCell ⟨m.pb, e, none⟩ (.int .i64 x)) := by
  have hst : ∀ b, b ≠ m.pb → (w.setCell ⟨m.pb, e, none⟩ (.int .i64 x)).heap[b]? = w.heap[b]? := fun b hb => setCell_block w _ _ hb
  refine ⟨h.d1, h.d2, h.d3, h.d4, h.d5, h.d6, h.few, h.blk.of (hst _ h.d3), h.keys.of (hst _ h.d5), h.tree.of (hst _ h.d6), ?_⟩
  have := h.pls.set e (.int .i64 x); rw [numC_set] at this; exact this
/-- The tree is shorter. -/
theorem QR.shorter (h : QR T m Q w) {k : Nat} (hk : k ≤ Q.tree.length) : QR T m { Q with tree := Q.tree.take k } (w.setCell ⟨m.gb, 2, none⟩ (.slice (some ⟨m.tb, 0, none⟩) k m.tc)) := by
  have hst : ∀ b, b ≠ m.gb → (w.setCell ⟨m.gb, 2, none⟩ (.slice (some ⟨m.tb, 0, none⟩) k m.tc)).heap[b]? = w.heap[b]? := fun b hb => setCell_block w _ _ hb
  have hl : (Q.tree.take k).length = k := by rw [List.length_take]; omega
  refine ⟨h.d1, h.d2, h.d3, h.d4, h.d5, h.d6, h.few, ?_, h.keys.of (hst _ (Ne.symm h.d1)), ?_, h.pls.of (hst _ (Ne.symm h.d3))⟩
  · have := h.blk.set 2 (.slice (some ⟨m.tb, 0, none⟩) k m.tc); unfold qCells at this ⊢; dsimp only; rw [hl]; exact this
  · have h1 := (h.tree.of (hst _ (Ne.symm h.d2))).take hk
    dsimp only; rw [hl]
    have h2 : (treeC Q.tree).take (k * 1) = treeC (Q.tree.take k) := by rw [Nat.mul_one]; unfold treeC; rw [List.map_take]
    rw [h2] at h1; exact h1
/-- The tree is longer: the world has changed in its block alone, or the tree has moved to a new one; then the struct's cell is stored. -/
theorem QR.longer (h : QR T m Q w) {w1 : World} {e g c : Nat} (hst : ∀ b, b < w.heap.size → b ≠ m.tb → w1.heap[b]? = w.heap[b]?)
    (hown : Row w1 3 1 g (Q.tree.length + 1) c (treeC (Q.tree ++ [e]))) (hat : g = m.tb ∨ w.heap.size ≤ g) :
    QR T { m with tb := g, tc := c } { Q with tree := Q.tree ++ [e] } (w1.setCell ⟨m.gb, 2, none⟩ (.slice (some ⟨g, 0, none⟩) (Q.tree.length + 1) c)) := by
  have e2 : ∀ b, b ≠ m.gb → (w1.setCell ⟨m.gb, 2, none⟩ (.slice (some ⟨g, 0, none⟩) (Q.tree.length + 1) c)).heap[b]? = w1.heap[b]? := fun b hb => setCell_block w1 _ _ hb
  have l1 := h.blk.lt; have l2 := h.keys.lt; have l3 := h.tree.lt; have l4 := h.pls.lt
  have d1 := h.d1; have d2 := h.d2; have d3 := h.d3; have d4 := h.d4; have d5 := h.d5; have d6 := h.d6
  have hb1 : Blk w1 m.gb T (qCells m Q) := h.blk.of (hst _ l1 d2)
  refine ⟨d1, ?_, d3, ?_, d5, ?_, h.few, ?_, (h.keys.of (hst _ l2 d4)).of (e2 _ (Ne.symm d1)), ?_, (h.pls.of (hst _ l4 (Ne.symm d6))).of (e2 _ (Ne.symm d3))⟩
  · show m.gb ≠ g; omega
  · show m.kb ≠ g; omega
  · show g ≠ m.pb; omega
  · have := hb1.set 2 (.slice (some ⟨g, 0, none⟩) (Q.tree.length + 1) c)
    unfold qCells at this ⊢; dsimp only; rw [List.length_append]; exact this
  · dsimp only; rw [List.length_append]; exact hown.of (e2 _ (by omega))
end
end Go.Proofs.Ytfighepopmaimaa
