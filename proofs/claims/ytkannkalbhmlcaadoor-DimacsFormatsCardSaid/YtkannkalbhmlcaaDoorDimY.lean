/-
  Appending to a slice of bytes that a string was turned into: of its block nothing is asked but that its cells are there and may be written.
-/
import Derived.Test.YtkannkalbhmlcaaDoorDimM
import Derived.ArgAppend
import Derived.Laws.IdiomCopy
import Derived.Lib.ConvBytes
namespace Go.Proofs.YtkannkalbhmlcaaDoor
open Go.RowKit Go.Lib
open Go.RowKit (Below)

structure LineIn (w : World) (B g cap : Nat) (l : List UInt8) : Prop where
  base : B ≤ g
  lt : g < w.heap.size
  fits : l.length ≤ cap
  max : cap ≤ maxLen
  cells : ∀ (j : Nat) (u : Value), (byteCells l)[j]? = some u → w.cell? ⟨g, j, none⟩ = some u
  there : ∀ j, j < cap → (w.cell? ⟨g, j, none⟩).isSome = true
  free : ∀ j, j < cap → w.frozen? ⟨g, j, none⟩ = false
def Line (w : World) (B : Nat) (v : Value) (l : List UInt8) : Prop := ∃ g cap, v = .slice (some ⟨g, 0, none⟩) l.length cap ∧ LineIn w B g cap l
theorem LineIn.below {w w' : World} {B g cap : Nat} {l : List UInt8} (h : LineIn w B g cap l) (hb : Below w.heap.size w w') : LineIn w' B g cap l where
  base := h.base
  lt := Nat.lt_of_lt_of_le h.lt hb.size
  fits := h.fits
  max := h.max
  cells := fun j u hj => (hb.cell (p := ⟨g, j, none⟩) h.lt).trans (h.cells j u hj)
  there := fun j hj => by rw [hb.cell (p := ⟨g, j, none⟩) h.lt]; exact h.there j hj
  free := fun j hj => by
    have := h.free j hj
    unfold World.frozen? at this ⊢
    rw [hb.block g h.lt]; exact this
theorem Line.below {w w' : World} {B : Nat} {v : Value} {l : List UInt8} (h : Line w B v l) (hb : Below w.heap.size w w') : Line w' B v l :=
  let ⟨g, cap, hv, hl⟩ := h; ⟨g, cap, hv, hl.below hb⟩
theorem below_setCells (B g : Nat) (hg : B ≤ g) (w0 : World) : ∀ (vs : List Value) (o : Nat) (w : World), Below B w0 w → Below B w0 (w.setCells g o vs)
  | [], _, _, h => h
  | v :: r, o, _, h => below_setCells B g hg w0 r (o + 1) _ (h.setCell (p := ⟨g, o, none⟩) hg v)
theorem size_setCells (g : Nat) : ∀ (vs : List Value) (o : Nat) (w : World), (w.setCells g o vs).heap.size = w.heap.size
  | [], _, _ => rfl
  | _ :: r, o, _ => (size_setCells g r (o + 1) _).trans (by simp)
theorem LineIn.put {w : World} {B g cap : Nat} {l m : List UInt8} (h : LineIn w B g cap l) (hroom : l.length + m.length ≤ cap) : LineIn (w.setCells g l.length (byteCells m)) B g cap (l ++ m) where
  base := h.base
  lt := by rw [size_setCells]; exact h.lt
  fits := by rw [List.length_append]; exact hroom
  max := h.max
  cells := fun j u hj => by
    have hl : (byteCells l).length = l.length := byteCells_length l
    have hmm : (byteCells m).length = m.length := byteCells_length m
    have e : byteCells (l ++ m) = byteCells l ++ byteCells m := by simp [byteCells]
    rw [e] at hj
    by_cases hjl : j < l.length
    · rw [List.getElem?_append_left (by omega)] at hj
      rw [World.cell?_setCells_out g _ _ _ _ (fun _ _ => .inl hjl)]
      exact h.cells j u hj
    · rw [List.getElem?_append_right (by omega), hl] at hj
      obtain ⟨h1, h2⟩ := List.getElem?_eq_some_iff.1 hj
      have := World.cell?_setCells_in g (byteCells m) l.length w (fun i hi => h.there _ (by omega)) (j - l.length) h1
      rw [show l.length + (j - l.length) = j by omega, h2] at this
      exact this
  there := fun j hj => by
    have hmm : (byteCells m).length = m.length := byteCells_length m
    by_cases hjl : j < l.length ∨ l.length + m.length ≤ j
    · rw [World.cell?_setCells_out g _ _ _ _ (fun _ _ => by simp only; omega)]; exact h.there j hj
    · have := World.cell?_setCells_in g (byteCells m) l.length w (fun i hi => h.there _ (by omega)) (j - l.length) (by omega)
      rw [show l.length + (j - l.length) = j by omega] at this
      rw [this]; rfl
  free := fun j hj => by rw [World.frozen?_setCells]; exact h.free j hj
theorem LineIn.fresh {w' : World} {B cap : Nat} {l : List UInt8} {cur : Array Value} {e : TypeId} {g : Nat} (hB : B ≤ g) (hh : w'.heap[g]? = some (.cells cur e (0, 0))) (hc : cur.size = cap) (hl : l.length ≤ cap) (hm : cap ≤ maxLen) (ht : cur.toList.take l.length = byteCells l) : LineIn w' B g cap l where
  base := hB
  lt := (Array.getElem?_eq_some_iff.1 hh).1
  fits := hl
  max := hm
  cells := fun j u hj => by
    have h1 : cur[j]? = some u := by
      have h2 := hj
      rw [← ht, List.getElem?_take] at h2
      split at h2
      · simpa using h2
      · cases h2
    exact heap_cell hh h1
  there := fun j hj => by
    rw [heap_cell hh (x := cur[j]'(by omega)) (by simp [show j < cur.size by omega])]; rfl
  free := fun j _ => heap_free hh

section
variable {w : World} {B : Nat} {v : Value} {l : List UInt8}
theorem str_cells (s : ByteArray) : strCells s = byteCells (W8 s) := rfl
theorem line_string (h : Line w B v l) (hB : B ≤ w.heap.size) (ty : TypeId) (s : ByteArray) (hlen : l.length + s.size ≤ 140737488355328) :
    ∃ v' w', (Builtin.append_ #[37, 9] ty #[v, .string s]).run Tryd.prog w = Result.ok v' w' ∧ Line w' B v' (l ++ W8 s) ∧ Below B w w' := by
  obtain ⟨i, hi, hz0, hz1, hz2⟩ := info_parts Tryd.info5
  obtain ⟨g, cap, rfl, hL⟩ := h
  have hs : (W8 s).length = s.size := w8_len s
  have hll : (l ++ W8 s).length = l.length + s.size := by rw [List.length_append, hs]
  by_cases hroom : l.length + s.size ≤ cap
  · have hf := run_firstCells_string (P := Tryd.prog) w 1 s
    have hst := run_storeCells_cells (P := Tryd.prog) g l.length (strCells s) 0 w (fun j hj => hL.there _ (by rw [strCells_length] at hj; omega)) (fun j hj => hL.free _ (by rw [strCells_length] at hj; omega)) (strCells_oneCell s)
    simp only [Nat.add_zero] at hst
    refine ⟨.slice (some ⟨g, 0, none⟩) (l.length + s.size) cap, w.setCells g l.length (strCells s), ?_, ⟨g, cap, by rw [hll], ?_⟩, below_setCells B g hL.base w _ _ _ (Below.refl _ _)⟩
    · simp [Builtin.append_, run_underlying Tryd.underlying37, run_underlying Tryd.underlying9, sizeOf, typeInfo, hi, hz1, Builtin.lenOf, hroom, hf, Addr.add_lit, hst]
    · rw [str_cells]; exact hL.put (by rw [hs]; exact hroom)
  · have hr := run_append_grow_string (P := Tryd.prog) w 37 9 ty 5 i (.int .u8 0) Tryd.underlying37 Tryd.underlying9 hi hz0 ⟨g, 0, none⟩ l.length cap (byteCells l) (by rw [byteCells_length, hz1, Nat.mul_one]) (fun j u hj => by rw [Addr.add_lit, Nat.zero_add]; exact hL.cells j u hj) s (by omega) (by omega) (by rw [hz2]; exact growslice_fits (by omega) (by omega))
    have hge := grownCap_ge w (l.length + s.size) cap 5
    have hcm := grownCap_le_maxLen w (l.length + s.size) cap 5 (by unfold maxLen; omega)
    refine ⟨_, _, hr, ⟨w.heap.size, _, by rw [hll], ?_⟩, ?_⟩
    · refine LineIn.fresh hB (heap_alloc_new w.drew _) ?_ (by rw [hll]; exact hge) hcm ?_
      · have hz1' : (Value.int IntKind.u8 0).cells.size = 1 := rfl
        simp only [Array.size_append, List.size_toArray, size_zeroCells, hz1', byteCells_length, strCells_length]
        omega
      · simp only [Array.toList_append, List.append_assoc]
        rw [str_cells, ← List.append_assoc]
        have e : byteCells l ++ byteCells (W8 s) = byteCells (l ++ W8 s) := by simp [byteCells]
        rw [e, ← byteCells_length (l ++ W8 s)]
        exact List.take_left
    · exact ((Below.refl B w).drew).alloc hB _
theorem line_byte (h : Line w B v l) (hB : B ≤ w.heap.size) (ty : TypeId) (c : UInt8) (hlen : l.length + 1 ≤ 140737488355328) :
    ∃ v' w', (Builtin.append_ #[37, 37] ty #[v, .slice (some ⟨w.heap.size, 0, none⟩) 1 1]).run Tryd.prog (w.alloc (.cells #[.int .u8 c.toNat] 5)) = Result.ok v' w' ∧ Line w' B v' (l ++ [c]) ∧ Below B w w' := by
  obtain ⟨i, hi, hz0, hz1, hz2⟩ := info_parts Tryd.info5
  obtain ⟨g, cap, rfl, hL0⟩ := h
  have hL := hL0.below (boxed w (.cells #[.int .u8 c.toNat] 5))
  have hBx : Below B w (w.alloc (.cells #[.int .u8 c.toNat] 5)) := (boxed w _).mono hB
  have hnew : ∀ (j : Nat) (u : Value), [Value.int .u8 c.toNat][j]? = some u → (w.alloc (.cells #[.int .u8 c.toNat] 5)).cell? ((⟨w.heap.size, 0, none⟩ : Addr).add j) = some u := one_new rfl
  have hll : (l ++ [c]).length = l.length + 1 := by simp
  by_cases hroom : l.length + 1 ≤ cap
  · have hr := run_append_room_cells (P := Tryd.prog) (w.alloc (.cells #[.int .u8 c.toNat] 5)) 37 ty 5 i Tryd.underlying37 hi g 0 l.length cap ⟨w.heap.size, 0, none⟩ 1 1 [.int .u8 c.toNat] (by rw [hz1]; rfl) hnew one_int hroom
      (fun j hj => by simp at hj; subst hj; rw [hz1]; exact hL.there _ (by omega)) (fun j hj => by simp at hj; subst hj; rw [hz1]; exact hL.free _ (by omega))
    rw [hz1, Nat.mul_one, Nat.zero_add] at hr
    exact ⟨_, _, hr, ⟨g, cap, by rw [hll], hL.put (m := [c]) (by simpa using hroom)⟩, below_setCells B g hL.base w _ _ _ hBx⟩
  · obtain ⟨v', w', hr, hown, hgr⟩ := run_append_arg_grows (P := Tryd.prog) (w.alloc (.cells #[.int .u8 c.toNat] 5)) 37 ty 5 i (.int .u8 0) 1 1 Tryd.underlying37 hi hz0 hz1 hz2 rfl (by decide) ⟨g, 0, none⟩ l.length cap (byteCells l) (by rw [byteCells_length, Nat.mul_one]) (fun j u hj => by rw [Addr.add_lit, Nat.zero_add]; exact hL.cells j u hj) ⟨w.heap.size, 0, none⟩ 1 1 [.int .u8 c.toNat] rfl hnew (by omega) (by unfold maxLen; omega) (by omega)
    have hsz : w.heap.size ≤ (w.alloc (.cells #[.int .u8 c.toNat] 5)).heap.size := by simp
    refine ⟨v', w', hr, ?_, hBx.grown hgr (Nat.le_trans hB hsz) (fun k e => by cases e)⟩
    have e : byteCells l ++ [Value.int .u8 c.toNat] = byteCells (l ++ [c]) := by simp [byteCells]
    rw [e] at hown
    rcases hown.2 with ⟨_, h0⟩ | ⟨g', cap', cur, h1, h2, h3, h4, h5, h6, h7⟩
    · omega
    · subst h1
      refine ⟨g', cap', by rw [hll], LineIn.fresh (Nat.le_trans (Nat.le_trans hB hsz) h2) h3 (by simpa using h6) (by rw [hll]; exact h4) h5 (by simpa [hll] using h7)⟩
end
theorem wpList_line_string {ops : Array Oper} {rest : List Oper} {o : Oper} {a : Act} {Q : Exit → Act → World → Prop} {w : World} {B : Nat} {v : Value} {l : List UInt8} (hgd : o.guard = none) (sl x : Operand)
    (ho : o.op = .call { callee := .builtin .append, args := #[sl, x], argTypes := #[37, 9] }) (h : Line w B v l) (hB : B ≤ w.heap.size) (hs : a.eval sl = v) (s : ByteArray) (hx : a.eval x = .string s) (hlen : l.length + s.size ≤ 140737488355328)
    (k : ∀ v' w', Line w' B v' (l ++ W8 s) → Below B w w' → wpList Tryd.prog ops Q rest (a.put o.dst v') w') : wpList Tryd.prog ops Q (o :: rest) a w := by
  refine wpList_plain hgd fun K hK => ?_
  obtain ⟨v', w', hr, h2, h3⟩ := line_string h hB o.type s hlen
  unfold Oper.wp execOp
  simp only [ho, resolve, invoke, builtin, Sem.run_bind, Sem.run_pure, Result.andThen_ok, List.map_toArray, List.map_cons, List.map_nil, hs, hx, hr]
  exact hK _ _ (k v' w' h2 h3)
theorem wpList_line_byte {ops : Array Oper} {rest : List Oper} {o : Oper} {a : Act} {Q : Exit → Act → World → Prop} {w : World} {B : Nat} {v : Value} {l : List UInt8} (hgd : o.guard = none) (sl x : Operand)
    (ho : o.op = .call { callee := .builtin .append, args := #[sl, x], argTypes := #[37, 37] }) (h : Line w B v l) (hB : B ≤ w.heap.size) (hs : a.eval sl = v) (c : UInt8) (n : Int) (hn : (c.toNat : Int) = n) (hx : a.eval x = .slice (some ⟨w.heap.size, 0, none⟩) 1 1) (hlen : l.length + 1 ≤ 140737488355328)
    (k : ∀ v' w', Line w' B v' (l ++ [c]) → Below B w w' → wpList Tryd.prog ops Q rest (a.put o.dst v') w') : wpList Tryd.prog ops Q (o :: rest) a (w.alloc (.cells #[.int .u8 n] 5)) := by
  subst hn
  refine wpList_plain hgd fun K hK => ?_
  obtain ⟨v', w', hr, h2, h3⟩ := line_byte h hB o.type c hlen
  unfold Oper.wp execOp
  simp only [ho, resolve, invoke, builtin, Sem.run_bind, Sem.run_pure, Result.andThen_ok, List.map_toArray, List.map_cons, List.map_nil, hs, hx, hr]
  exact hK _ _ (k v' w' h2 h3)
/-- What '[]byte(s)' makes. -/
theorem line_of_bytes (w : World) (B : Nat) (s : ByteArray) (hB : B ≤ w.heap.size) (hs : s.size ≤ 1000000) : Line (bytesWorld w 5 s) B (.slice (some ⟨w.heap.size, 0, none⟩) s.size (grownCap w s.size 0 5)) (W8 s) := by
  have hge := grownCap_ge w s.size 0 5
  have hcm := grownCap_le_maxLen w s.size 0 5 (by unfold maxLen; omega)
  have hsz : (bytesCells w 5 s).size = grownCap w s.size 0 5 := by
    unfold bytesCells
    simp only [Array.size_append, Array.size_map, Array.size_replicate]
    have : s.data.size = s.size := rfl
    omega
  have hh := bytesWorld_at_new w 5 s
  refine ⟨w.heap.size, _, by rw [w8_len], ⟨hB, by rw [bytesWorld_size]; omega, by rw [w8_len]; exact hge, hcm, fun j u hj => ?_, fun j hj => ?_, fun j hj => ?_⟩⟩
  · have hjl : j < s.size := by have := (List.getElem?_eq_some_iff.1 hj).1; rw [byteCells_length, w8_len] at this; exact this
    rw [bytesWorld_cell w 5 s j hjl]
    rw [byteCells, List.getElem?_map] at hj
    obtain ⟨b, hb, rfl⟩ := Option.map_eq_some_iff.1 hj
    rw [show s.data.toList.getD j 0 = b by rw [List.getD_eq_getElem?_getD]; unfold W8 at hb; rw [hb]; rfl]
  · rw [heap_cell hh (x := (bytesCells w 5 s)[j]'(by omega)) (by simp [show j < (bytesCells w 5 s).size by omega])]; rfl
  · unfold World.frozen?
    rw [hh]
    simp; omega
end Go.Proofs.YtkannkalbhmlcaaDoor
