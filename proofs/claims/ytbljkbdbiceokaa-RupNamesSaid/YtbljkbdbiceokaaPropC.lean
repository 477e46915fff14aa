/-
  A region that holds a communication; blocks that are known whole; a map of integers.
-/
import Derived.Test.YtbljkbdbiceokaaPropB
import Derived.Test.YtbljkbdbiceokaaCnfE
import Derived.Conc.LoneCalls
import Derived.Conc.LoneSelectN
import Derived.Maps.Own
import Derived.Maps.Views
import Derived.Deep.AppendLies
import Derived.Deep.RegionHeld3
import Derived.Deep.DrawnRows
namespace Go.Proofs.Ytbljkbdbiceokaa
open Go.RowKit Go.Lib
open Go.RowKit (Below)
open Go.Conc (solo G rcase scase uponK)

/-! A region, operation by operation. -/
def OpsTo (P : Program) (ops : Array Oper) (Q : Exit → Act → World → Prop) (l : List Nat) (a : Act) (w : World) : Prop :=
  ∀ (b : Frame) (k : List Item) (cs : List Frame), ∃ e a' w', Q e a' w' ∧ Arrives P (lone (b.at a (.inRegion ops l :: k)) cs w) b k cs e a' w'
section
variable {P : Program} {ops : Array Oper} {Q : Exit → Act → World → Prop} {a : Act} {w w' : World} {i : Nat} {rest : List Nat} {o : Oper}
theorem opsTo_done (h : Q .normal a w) : OpsTo P ops Q [] a w := fun _ _ _ => ⟨.normal, a, w, h, .one step_region_end⟩
theorem finishes (b : Frame) (k : List Item) (a : Act) (ho : ops[i]? = some o) (v : Value) : (b.at a (.inRegion ops (i :: rest) :: k)).finish v = b.at (a.put o.dst v) (.inRegion ops rest :: k) := by rw [Frame.finish_at, ho]; rfl
theorem opsTo_k (ho : ops[i]? = some o) (hw : Region.wanted o (yielded ops a.tmps) = true)
    (h : ∀ K : Act → World → Prop, (∀ a' w', OpsTo P ops Q rest a' w' → K a' w') → uponK o a K ((execOp a.eval o).run P w)) : OpsTo P ops Q (i :: rest) a w := by
  intro b k cs
  have hg := stepG_op (P := P) (b := b) (k := k) (cs := cs) (w := w) (rest := rest) ho hw
  have h1 := h (OpsTo P ops Q rest) fun _ _ h => h
  generalize hr : (execOp a.eval o).run P w = r at h1
  match r, h1 with
  | .ok (.value v) w', h1 =>
    obtain ⟨e, a', w'', hq, harr⟩ := h1 b k cs
    refine ⟨e, a', w'', hq, .of_steps (.one (step_lone_go ?_)) harr⟩
    rw [hg, ← finishes b k a ho]; simp [stepG.apply, hr]
  | .ok .skip w', h1 =>
    obtain ⟨e, a', w'', hq, harr⟩ := h1 b k cs
    refine ⟨e, a', w'', hq, .of_steps (.one (step_lone_go ?_)) harr⟩
    rw [hg, ← finishes b k a ho]; simp [stepG.apply, hr]
theorem commStep {cases : Array CommCase} {blocking : Bool} {shape : CommShape} (ho : ops[i]? = some o) (hw : Region.wanted o (yielded ops a.tmps) = true)
    (hr : (execOp a.eval o).run P w = .ok (.comm cases blocking shape) w') (b : Frame) (k : List Item) (cs : List Frame) :
    ∃ es, stepG P true (G (b.at a (.inRegion ops (i :: rest) :: k)) cs) w = .comm (G (b.at a (.inRegion ops (i :: rest) :: k)) cs) cases blocking shape w' es := by
  rw [Go.Conc.stepG_oper ho hw]
  simp [stepG.apply, hr, G, Frame.at, GStep.after]
theorem opsTo_send {c cap s r : Nat} {buf : Array Value} {v z : Value} {tm : Bool} (ho : ops[i]? = some o) (hw : Region.wanted o (yielded ops a.tmps) = true)
    (hr : (execOp a.eval o).run P w = .ok (.comm #[scase c v z] true .send) w) (hc : w.heap[c]? = some (.chan cap buf false s r tm)) (hroom : buf.size < cap)
    (h : OpsTo P ops Q rest (a.put o.dst undef) (w.setChan c cap (buf.push v) false (s + 1) r tm)) : OpsTo P ops Q (i :: rest) a w := by
  intro b k cs
  obtain ⟨es, hst⟩ := commStep (rest := rest) ho hw hr b k cs
  obtain ⟨e, a', w'', hq, harr⟩ := h b k cs
  refine ⟨e, a', w'', hq, .of_steps (.one ?_) harr⟩
  rw [Go.Conc.lone_eq_solo, Go.Conc.step_lone_send_room hst hc hroom, finishes b k a ho]
  rfl
theorem opsTo_recv {c cap s r : Nat} {buf : Array Value} {z : Value} {closed tm : Bool} (ho : ops[i]? = some o) (hw : Region.wanted o (yielded ops a.tmps) = true)
    (hr : (execOp a.eval o).run P w = .ok (.comm #[rcase c z] true (.recv false)) w) (hc : w.heap[c]? = some (.chan cap buf closed s r tm)) (hsome : 0 < buf.size)
    (h : OpsTo P ops Q rest (a.put o.dst (buf.getD 0 undef)) (w.setChan c cap (buf.extract 1 buf.size) closed s (r + 1) tm)) : OpsTo P ops Q (i :: rest) a w := by
  intro b k cs
  obtain ⟨es, hst⟩ := commStep (rest := rest) ho hw hr b k cs
  obtain ⟨e, a', w'', hq, harr⟩ := h b k cs
  refine ⟨e, a', w'', hq, .of_steps (.one ?_) harr⟩
  rw [Go.Conc.lone_eq_solo, Go.Conc.step_lone_recv_buf false hst hc hsome, finishes b k a ho]
  rfl
/-- A region, kept from the walk. -/
def Kept (id : Nat) (ops : Array Oper) (d : Bool) : Code := .region id ops d
theorem kept (id : Nat) (ops : Array Oper) (d : Bool) : Code.region id ops d = Kept id ops d := rfl
theorem wp_kept {id : Nat} (h : OpsTo P ops Q (List.range ops.size) a w) : (Kept id ops false).wp P Q a w :=
  fun b k cs => let ⟨e, a', w', q, r⟩ := h b k cs; ⟨e, a', w', q, .of_steps (.one step_region) r⟩
end

/-! A block of cells that is known whole. -/
def Blk (w : World) (b : Nat) (t : TypeId) (xs : List Value) : Prop := w.heap[b]? = some (.cells xs.toArray t (0, 0))
section
variable {w w' : World} {b : Nat} {t : TypeId} {xs : List Value}
theorem Blk.cell (h : Blk w b t xs) {i : Nat} {v : Value} (hi : xs[i]? = some v) : w.cell? ⟨b, i, none⟩ = some v := by
  unfold Blk at h; simp [World.cell?, h, hi]
theorem Blk.free (h : Blk w b t xs) (i : Nat) : w.frozen? ⟨b, i, none⟩ = false := by unfold Blk at h; simp [World.frozen?, h]
theorem Blk.lt (h : Blk w b t xs) : b < w.heap.size := (Array.getElem?_eq_some_iff.1 h).1
theorem Blk.of (h : Blk w b t xs) (hb : w'.heap[b]? = w.heap[b]?) : Blk w' b t xs := hb.trans h
theorem Blk.new (w : World) (xs : List Value) (t : TypeId) : Blk (w.alloc (.cells xs.toArray t)) w.heap.size t xs := heap_alloc_new _ _
theorem Blk.set (h : Blk w b t xs) (i : Nat) (u : Value) : Blk (w.setCell ⟨b, i, none⟩ u) b t (xs.set i u) := by
  unfold Blk at h ⊢; simp [World.setCell, Array.getElem?_modify, h]
theorem setCell_block (w : World) (p : Addr) (u : Value) {k : Nat} (h : k ≠ p.block) : (w.setCell p u).heap[k]? = w.heap[k]? := Below.heap_setCell w p u k h
theorem setChan_block (w : World) (c cap : Nat) (buf : Array Value) (cl : Bool) (s r : Nat) (tm : Bool) {k : Nat} (h : k ≠ c) : (w.setChan c cap buf cl s r tm).heap[k]? = w.heap[k]? := by
  simp only [World.setChan]; rw [Array.getElem?_setIfInBounds_ne (Ne.symm h)]
end

/-! A map of integers: what it holds at each. -/
abbrev anyElem (v : Value) : Option (DataW Value × List MemPlace) := some (.held v, [])
def Rng (x : Int) : Prop := -9223372036854775808 ≤ x ∧ x ≤ 9223372036854775807
theorem Rng.wf {x : Int} (h : Rng x) : (Lit.int .i64 x).wf = true := by
  obtain ⟨h1, h2⟩ := h; simp [Lit.wf, IntKind.min, IntKind.max, IntKind.bits, IntKind.signed]; omega
def MapIs (P : Program) (w : World) (b N : Nat) (z : Value) (f : Int → Value) : Prop := ∃ D, w.ownsMap P 3 anyElem b N D ∧ ∀ x, Rng x → D.atKey (.int .i64 x) (.held z) = .held (f x)
section
variable {w w' : World} {b N : Nat} {z : Value} {f : Int → Value}
theorem MapIs.of (h : MapIs Try.prog w b N z f) (hb : w'.heap[b]? = w.heap[b]?) : MapIs Try.prog w' b N z f := by
  obtain ⟨D, ⟨es, clock, h1, h2⟩, h3⟩ := h
  exact ⟨D, ⟨es, clock, hb.trans h1, h2⟩, h3⟩
theorem MapIs.lt (h : MapIs Try.prog w b N z f) : b < w.heap.size := let ⟨_, h1, _⟩ := h; h1.lt
theorem MapIs.new (w : World) (z : Value) : MapIs Try.prog (w.alloc (.map #[] 0)) w.heap.size 0 z fun _ => z :=
  ⟨_, World.ownsMap_made w _ _ _, fun x _ => by simp [DataW.atKey]⟩
theorem MapIs.mono (h : MapIs Try.prog w b N z f) {M : Nat} (hm : N ≤ M) : MapIs Try.prog w b M z f := let ⟨D, h1, h2⟩ := h; ⟨D, h1.mono hm, h2⟩
theorem MapIs.look {T E : TypeId} (h : MapIs Try.prog w b N z f) (hT : Try.prog.underlying T = some (.map 3 E)) (hz : ∀ w, (zeroValue E).run Try.prog w = .ok z w) {x : Int} (hx : Rng x) :
    (Instr.lookup T (.map (some b)) (.int .i64 x) false).run Try.prog w = .ok (f x) w := by
  obtain ⟨D, h1, h2⟩ := h
  obtain ⟨v, ps, hr, hv⟩ := h1.lookup (Maps.int_keyed Try.underlying3) hT (hz w) (zd := .held z) (zp := []) rfl (Maps.keyOf_int_mk Try.underlying3 hx.wf)
  rw [h2 x hx] at hv
  simp only [anyElem, Option.some.injEq, Prod.mk.injEq, DataW.held.injEq] at hv
  rw [hr, hv.1]
theorem MapIs.put {T E : TypeId} (h : MapIs Try.prog w b N z f) (hT : Try.prog.underlying T = some (.map 3 E)) (hN : N < maxLen) {x : Int} (hx : Rng x) (v : Value) :
    ∃ w', (Instr.mapUpdate T (.map (some b)) (.int .i64 x) v).run Try.prog w = .ok () w' ∧ MapIs Try.prog w' b (N + 1) z (fun y => if y = x then v else f y) ∧ w.grownBy w' (some b) := by
  obtain ⟨D, h1, h2⟩ := h
  obtain ⟨w', hr, h3, h4⟩ := h1.update (Maps.int_keyed Try.underlying3) hT hN (Maps.keyOf_int_mk Try.underlying3 hx.wf) (val := v) (d := .held v) (ps := []) rfl
  refine ⟨w', hr, ⟨_, h3, fun y hy => ?_⟩, h4⟩
  have hD : Maps.IsMap D := by obtain ⟨es, clock, _, _, _, rfl⟩ := h1; exact ⟨_, rfl⟩
  show _ = DataW.held (if y = x then v else f y)
  by_cases hyx : y = x
  · subst hyx
    rw [if_pos rfl, Maps.atKey_put_same hD (by simp [WideAt.IsKeyLit])]
  · rw [if_neg hyx, Maps.atKey_put_other (by simpa using hyx), h2 y hy]
end
end Go.Proofs.Ytbljkbdbiceokaa
