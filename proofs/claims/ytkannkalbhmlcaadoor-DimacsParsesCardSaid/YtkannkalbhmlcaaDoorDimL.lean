/-
  Parse: the loop over the lines; the whole.
-/
import Derived.Test.YtkannkalbhmlcaaDoorDimK
namespace Go.Proofs.YtkannkalbhmlcaaDoor
open Go.RowKit Go.Lib Go.Shelf
open Go.RowKit (Below)
attribute [local go_sem] Oper.semAt_some

theorem stepL_good {c : Nat} {r r' : Rd} {ws : List Word} (hr : Good r) (h : stepL c r ws = .ok r') : Good r' := by
  unfold stepL at h
  cases hb : r.begun
  · rw [hb] at h
    simp only [Bool.false_eq_true, if_false] at h
    cases hh : headW c ws with
    | error e => rw [hh] at h; cases h
    | ok p =>
      obtain ⟨v, k⟩ := p
      rw [hh] at h
      cases h
      exact headW_good hr hb hh
  · rw [hb] at h
    simp only [if_true] at h
    exact (stepsW_good ws hr hb h).1
theorem fold_step {pre : List El} {x : El} {r : Rd} (h : foldN 1048577 rd0 (pre.map view) = .ok r) :
    (∀ e, stepL 1048577 r (x.ws.map W8) = .error e → foldN 1048577 rd0 ((pre ++ [x]).map view) = .error (x.n, e)) ∧ (∀ r', stepL 1048577 r (x.ws.map W8) = .ok r' → foldN 1048577 rd0 ((pre ++ [x]).map view) = .ok r') := by
  have h2 := foldN_append 1048577 (pre.map view) [view x] rd0
  rw [h] at h2
  constructor
  · intro e he
    rw [List.map_append, List.map_singleton, h2]
    simp only [foldN, view, he]
  · intro r' he
    rw [List.map_append, List.map_singleton, h2]
    simp only [foldN, view, he]
def ParsePost (w : World) (o : Out) (e : Ending) (w' : World) : Prop :=
  ∃ a c, e = .returned (.tuple #[.agg #[.int .i64 o.vars, .slice a o.cls.length c], .int .i64 o.line, .int .i64 o.err]) ∧ RowsR .i64 w' a o.cls ∧ Below w.heap.size w w'

def PI (w : World) (pre : List El) (W : World) : Prop :=
  ∃ r line, foldN 1048577 rd0 (pre.map view) = .ok r ∧ Good r ∧ RdAt W (w.heap.size + 1 + 1 + 1) r line 0 ∧ Boxes W w.heap.size (.int .i64 0) (.slice none 0 0) (.int .i64 0) (.int .i64 0) ∧ Below w.heap.size w W
def PX (w : World) (c : Code) (pre : List El) (W : World) : Prop :=
  c = .ret ∧ ∃ r n e, foldN 1048577 rd0 (pre.map view) = .error (n, e) ∧ e ≠ 0 ∧ RdAt W (w.heap.size + 1 + 1 + 1) r n e ∧ Boxes W w.heap.size (.int .i64 0) (.slice none 0 0) (.int .i64 0) (.int .i64 0) ∧ Below w.heap.size w W
theorem kept_of_row {B : Nat} {W W' : World} {row : Option Nat} (hg : W.grownBy W' row) (hr : ∀ r, row = some r → B ≤ r ∧ ∃ o : Obj, W.heap[r]? = some o ∧ o.isCells = false) : CellsKept W W' := fun _ _ _ _ h =>
  (grownBy_keeps_cells hg (fun r e => (hr r e).2) h rfl).trans h
theorem PI.own (w : World) (B : Nat) (hB : w.heap.size ≤ B) : OwnFrom B (PI w) := fun pre W W' row hs hg hr => by
  obtain ⟨r, line, h1, h2, ⟨v, u, h3⟩, h4, h5⟩ := hs
  have hk := kept_of_row hg hr
  exact ⟨r, line, h1, h2, ⟨v, u, h3.kept hg.size hk⟩, h4.kept hk, h5.grown hg h5.size (fun k e => Nat.le_trans hB (hr k e).1)⟩
theorem PX.own (w : World) (c : Code) (B : Nat) (hB : w.heap.size ≤ B) : OwnFrom B (PX w c) := fun pre W W' row hs hg hr => by
  obtain ⟨hc, r, n, e, h1, h2, ⟨v, u, h3⟩, h4, h5⟩ := hs
  have hk := kept_of_row hg hr
  exact ⟨hc, r, n, e, h1, h2, ⟨v, u, h3.kept hg.size hk⟩, h4.kept hk, h5.grown hg h5.size (fun k e => Nat.le_trans hB (hr k e).1)⟩
theorem GEl.put (x : El) (W : World) (l : Nat) (o o' : Obj) (h : GEl x W) (hl : W.heap[l]? = some o) (ho : o.isCells = false) : GEl x (W.putObj l o') := by
  refine ⟨h.1.kept fun k cur fr e => ?_, h.2⟩
  rw [World.putObj_heap_other]
  · exact e
  · intro e2; subst e2; rw [hl] at e; cases e; cases ho

def W4 (w : World) (e : Int) : World := (((w.alloc (.cells #[.int .i64 0, .slice none 0 0] 24)).alloc (.cells #[.int .i64 0] 3)).alloc (.cells #[.int .i64 0] 27)).alloc (.cells #[.bool false, .int .i64 0, .int .i64 0, .slice none 0 0, .slice none 0 0, .int .i64 0, .int .i64 e] 53)
theorem W4_size (w : World) (e : Int) : (W4 w e).heap.size = w.heap.size + 1 + 1 + 1 + 1 := by simp [W4]
theorem W4_first (w : World) (e : Int) : RdIn (W4 w e) (w.heap.size + 1 + 1 + 1) rd0 (.slice none 0 0) (.slice none 0 0) 0 e ∧ Boxes (W4 w e) w.heap.size (.int .i64 0) (.slice none 0 0) (.int .i64 0) (.int .i64 0) ∧ Below w.heap.size w (W4 w e) := by
  refine ⟨RdIn.first _ _ _ (by simp), ⟨?_, ?_, ?_⟩, ?_⟩
  · unfold W4
    rw [Below.heap_alloc _ _ _ (by simp only [World.size_alloc]; omega), Below.heap_alloc _ _ _ (by simp only [World.size_alloc]; omega), Below.heap_alloc _ _ _ (by simp only [World.size_alloc]; omega)]
    exact heap_alloc_new _ _
  · unfold W4
    rw [Below.heap_alloc _ _ _ (by simp only [World.size_alloc]; omega), Below.heap_alloc _ _ _ (by simp only [World.size_alloc]; omega)]
    have := heap_alloc_new (w.alloc (.cells #[.int .i64 0, .slice none 0 0] 24)) (.cells #[.int .i64 0] 3)
    simpa using this
  · unfold W4
    rw [Below.heap_alloc _ _ _ (by simp only [World.size_alloc]; omega)]
    have := heap_alloc_new ((w.alloc (.cells #[.int .i64 0, .slice none 0 0] 24)).alloc (.cells #[.int .i64 0] 3)) (.cells #[.int .i64 0] 27)
    simpa using this
  · exact ((((Below.refl _ _).alloc (Nat.le_refl _) _).alloc (by simp) _).alloc (by simp; omega) _).alloc (by simp; omega) _
theorem RdIn.rowsR {w : World} {b : Nat} {r : Rd} {a : Option Addr} {n c : Nat} {u : Value} {line err : Int} (h : RdIn w b r (.slice a n c) u line err) : n = r.cls.length ∧ RowsR .i64 w a r.cls := by
  obtain ⟨vs, h1, h2, _⟩ := h.rows
  have hB : Built w (b + 1) (.slice a n c) r.cls := ⟨vs, h1, h2⟩
  obtain ⟨a2, c2, hv, _, _, _, hr⟩ := hB.rows
  injection hv with e1 e2 e3
  subst e1 e2
  exact ⟨rfl, hr⟩

/-- The way out: the deferred call, then the results' variables are read. -/
theorem leave_parse {w W : World} {tmps : Array Value} {r : Rd} {v u : Value} {line err : Int} {o : Out} (hI : RdIn W (w.heap.size + 1 + 1 + 1) r v u line err) (hB : Boxes W w.heap.size (.int .i64 0) (.slice none 0 0) (.int .i64 0) (.int .i64 0)) (hb : Below w.heap.size w W)
    (ho : o = if err = 0 then ⟨r.vars, r.cls, 0, 0⟩ else ⟨0, [], line, err⟩)
    (hres : ∀ (W' : World) (x v l e : Value), W'.cell? ⟨w.heap.size, 0, none⟩ = some x → W'.cell? ⟨w.heap.size, 1, none⟩ = some v → W'.cell? ⟨w.heap.size + 1, 0, none⟩ = some l → W'.cell? ⟨w.heap.size + 1 + 1, 0, none⟩ = some e → (results Tryd.f15 tmps).run Tryd.prog W' = .ok (.tuple #[.agg #[x, v], l, e]) W') :
    LeavesInM Fence.wide 12 Tryd.prog Tryd.f15 tmps (ParsePost w o) [{ target := .fn (.func 26) #[.pointer (some ⟨w.heap.size + 1 + 1 + 1, 0, none⟩), .pointer (some ⟨w.heap.size, 0, none⟩), .pointer (some ⟨w.heap.size + 1, 0, none⟩), .pointer (some ⟨w.heap.size + 1 + 1, 0, none⟩)], args := #[] }] .returning W := by
  refine ⟨by simp, .inr ⟨fun _ => by omega, .func 26, _, 26, #[.pointer (some ⟨w.heap.size + 1 + 1 + 1, 0, none⟩), .pointer (some ⟨w.heap.size, 0, none⟩), .pointer (some ⟨w.heap.size + 1, 0, none⟩), .pointer (some ⟨w.heap.size + 1 + 1, 0, none⟩)], rfl, ?_, fun g _ => trivial, ?_⟩⟩
  · simp [invoke, go_sem]
  · refine (close_d 11 (by omega) W w.heap.size (w.heap.size + 1 + 1 + 1) r v u _ _ _ _ line err .returning hI hB (by omega)).mono ?_
    rintro e u' w' ⟨rfl, rfl, hB', hb', hk'⟩
    have k0 : w'.cell? ⟨w.heap.size, 0, none⟩ = some (.int .i64 (if err = 0 then r.vars else 0)) := heap_cell (i := 0) hB'.1 rfl
    have k1 : w'.cell? ⟨w.heap.size, 1, none⟩ = some (if err = 0 then v else .slice none 0 0) := heap_cell (i := 1) hB'.1 rfl
    have k2 : w'.cell? ⟨w.heap.size + 1, 0, none⟩ = some (.int .i64 (if err = 0 then 0 else line)) := heap_cell (i := 0) hB'.2.1 rfl
    have k3 : w'.cell? ⟨w.heap.size + 1 + 1, 0, none⟩ = some (.int .i64 err) := heap_cell (i := 0) hB'.2.2 rfl
    refine ⟨_, hres w' _ _ _ _ k0 k1 k2 k3, ?_⟩
    have hlt := hI.lt
    have hbw : Below w.heap.size w w' := hb.trans (hb'.mono (by omega))
    by_cases h : err = 0
    · subst h
      simp only [if_true] at ho ⊢
      subst ho
      obtain ⟨av, cv, rfl⟩ := hI.v_form
      obtain ⟨_, hr⟩ := hI.rowsR
      refine ⟨av, cv, rfl, ?_, hbw⟩
      rcases hr with h0 | ⟨b, off, ha, hbs, hc⟩
      · exact .inl h0
      · refine .inr ⟨b, off, ha, by have := hb'.size; omega, fun j hj0 => ?_⟩
        have hj : j < r.cls.length := hj0
        have hst : ∀ k, k < W.heap.size → w.heap.size + 1 + 1 < k → w'.heap[k]? = W.heap[k]? := fun k h1 h2 => hk' k h1 (by omega) (by omega) (by omega)
        obtain ⟨vs, h1, h2, _⟩ := hI.rows
        have hbb : w.heap.size + 1 + 1 < b := by
          have := World.ownsRow.lt h1 b (by rw [ha]; rfl)
          omega
        obtain ⟨x, hx, a2, c2, e1, e2, e3⟩ := h2 j _ (getD_some r.cls [] j hj)
        obtain ⟨a3, c3, g1, g2⟩ := hc j hj
        refine ⟨a2, c2, ?_, KI.of (e2.stays hb'.size fun p hp => ?_)⟩
        · have hown := h1
          rcases hown.2 with ⟨_, h0⟩ | ⟨g, cap, cur, hv, _, hh, _, _, hsz, ht⟩
          · omega
          · injection hv with hv _ _
            rw [ha] at hv
            injection hv with hv
            injection hv with q1 q2 _
            subst q1 q2
            have h3 := congrArg (fun l : List Value => l[j]?) ht
            simp only [List.getElem?_take] at h3
            rw [if_pos (by omega), hx, e1] at h3
            have := heap_cell (i := j) ((hst b hbs hbb).trans hh) (by simpa using h3)
            simpa using this
        · obtain ⟨p1, p2, _⟩ := e3 p hp
          exact hst _ p2 (by omega)
    · simp only [if_neg h] at ho ⊢
      subst ho
      exact ⟨none, 0, rfl, .inl rfl, hbw⟩

set_option maxRecDepth 100000 in
set_option maxHeartbeats 4000000 in
theorem parse_any (s : ByteArray) (w : World) (hs : s.size ≤ 1048576) (he : Env w) : Calls Tryd.prog 15 #[.string s] w (ParsePost w (parseB (W8 s))) := by
  have hmf : ∀ (fn : Fn) (first cap : Array Value) (w : World), (Instr.makeFunc fn first cap).run Tryd.prog w = .ok (.func fn first cap) w := fun _ _ _ _ => rfl
  obtain ⟨hR4, hB4, hb4⟩ := W4_first w 0
  have hS4 := W4_size w 0
  refine (callsIn_wide (n := 12)).1 ?_
  refine callsIn_of_wp_marks Tryd.func15 rfl trivial ?_ rfl
  simp only [Tryd.ntmps15, List.size_toArray, List.length_cons, List.length_nil, Nat.reduceAdd, Nat.reduceSub, Array.replicate_succ, Array.replicate_zero, List.push_toArray, List.append_toArray, List.nil_append, List.cons_append]
  by_cases hlen : 65536 < s.size
  · have hd : decide (65536 < (s.size : Int)) = true := by simp; omega
    have HX := Lib.hid (W4_first w 5)
    have HO : Hid (parseB (W8 s) = ⟨0, [], 0, 5⟩) := by unfold Hid parseB parseC; rw [if_pos (by rw [w8_len]; omega)]
    clear hR4 hB4 hb4 hS4 he
    gi_wp2
    rw [HO.out]
    refine leave_parse HX.out.1 HX.out.2.1 HX.out.2.2 ?_ ?_
    · rw [if_neg (by omega)]
    · intro W' x v l e q0 q1 q2 q3
      simp [results, Tryd.f15, go_sem, q0, q1, q2, q3]
  · have HR4 := Lib.hid hR4
    have HB4 := Lib.hid hB4
    have Hb4 := Lib.hid hb4
    have HS4 := Lib.hid hS4
    clear hR4 hB4 hb4 hS4
    have hl2 : s.size ≤ 65536 := by omega
    have hd : decide (65536 < (s.size : Int)) = false := by simp; omega
    have hlM := he.lt
    have HEn := Lib.hid he
    clear he
    gi_wp2
    refine ⟨trivial, ?_⟩
    refine (callsIn_wide.2 (lines_any s _)).mono ?_
    rintro e w' ⟨rfl, rfl⟩
    obtain ⟨W5, hW5⟩ : ∃ W5, (W4 w 0).alloc (.cells #[.string s] 9) = W5 := ⟨_, rfl⟩
    have hb5 : Below (W4 w 0).heap.size (W4 w 0) W5 := by rw [← hW5]; exact boxed _ _
    have hcs : W5.cell? ⟨w.heap.size + 1 + 1 + 1 + 1, 0, none⟩ = some (.string s) := by rw [← hW5, World.cell?_alloc_at _ _ _ _ HS4.out.symm]; rfl
    have hs5 : W5.heap.size = w.heap.size + 1 + 1 + 1 + 1 + 1 := by rw [← hW5]; simp [HS4.out]
    unfold W4 at hW5
    rw [hW5]
    have hR5 := HR4.out.below hb5
    have hB5 := HB4.out.kept (CellsKept.of_below hb5)
    have hBw := Hb4.out.trans (hb5.mono (by rw [HS4.out]; omega))
    have HR5 := Lib.hid hR5
    have HB5 := Lib.hid hB5
    have HBw := Lib.hid hBw
    have HS5 := Lib.hid hs5
    have HCS := Lib.hid hcs
    clear hR5 hB5 hBw hb5 hW5 hs5 hcs HR4 HB4 Hb4 HS4
    gi_wp2
    refine wpIn_range_G rfl (by omega) (gf := 40) (lb := #[.pointer (some ⟨w.heap.size + 1 + 1 + 1 + 1, 0, none⟩)]) rfl trivial (enters_of Tryd.func40 (by kernel_rfl) rfl)
      (linesSeq 11 (by omega) s (w.heap.size + 1 + 1 + 1 + 1) w.heap.size W5 hl2 (HEn.out.below HBw.out) (by rw [HS5.out]; omega) HCS.out hlM (by rw [HS5.out]; omega)) (by rw [HS5.out]; omega) GEl.put (fun _ => rfl)
      (PI w) (PX w) (PI.own w _ (by rw [HS5.out]; omega)) (fun c => PX.own w c _ (by rw [HS5.out]; omega)) ⟨rd0, 0, rfl, rd0_good, ⟨_, _, HR5.out⟩, HB5.out, HBw.out⟩
      (fun x => { tmps := #[.string s, undef, .pointer (some ⟨w.heap.size, 0, none⟩), .pointer (some ⟨w.heap.size + 1, 0, none⟩), .pointer (some ⟨w.heap.size + 1 + 1, 0, none⟩), .pointer (some ⟨w.heap.size + 1 + 1 + 1, 0, none⟩), .int .i64 x.n, .slice (some ⟨x.A, 0, none⟩) x.ws.length x.ws.length, .func (.func 26) #[] #[.pointer (some ⟨w.heap.size + 1 + 1 + 1, 0, none⟩), .pointer (some ⟨w.heap.size, 0, none⟩), .pointer (some ⟨w.heap.size + 1, 0, none⟩), .pointer (some ⟨w.heap.size + 1 + 1, 0, none⟩)], .string s, .int .i64 s.size, .bool false, undef, .string s, .func (.func 40) #[] #[.pointer (some ⟨w.heap.size + 1 + 1 + 1 + 1, 0, none⟩)], .int .i64 x.n, .slice (some ⟨x.A, 0, none⟩) x.ws.length x.ws.length, undef, undef, undef, undef, undef, undef, undef, undef, undef, undef, undef, undef, undef, undef], defers := [] }) ?assign ?body ?done ?stop
    case assign =>
      intro l x W K hK
      unfold encEl
      gi_wp2
      exact hK
    case body =>
      rintro l pre x W ⟨r, line, h1, h2, ⟨v, u, h3⟩, h4, h5⟩ hG
      have f5 := h3.free 5
      have f6 := h3.free 6
      have c5 := h3.c5
      have HR := Lib.hid (h3.line' x.n)
      have HB0 := Lib.hid (setBelow W (w.heap.size + 1 + 1 + 1) 5 (.int .i64 x.n))
      have HS0 := Lib.hid (StrKept.set (i := 5) (x := .int .i64 x.n) h3.whole)
      have HC := Lib.hid (read_any (some ⟨x.A, 0, none⟩) x.ws.length x.ws (W.setCell ⟨w.heap.size + 1 + 1 + 1, 5, none⟩ (.int .i64 x.n)) (w.heap.size + 1 + 1 + 1) r x.n 0 hG.2.1 hG.2.2 (hG.1.kept HS0.out.1) ⟨_, _, HR.out⟩ h2)
      have HF := Lib.hid h1
      have HBx := Lib.hid h4
      have HBw := Lib.hid h5
      have HGd := Lib.hid h2
      clear h1 h2 h3 h4 h5 hG
      gi_wp2
      refine ⟨trivial, ?_⟩
      refine (CallsIn.inRound l (callsIn_wide.2 HC.out)).mono ?_
      rintro e w1 ⟨g1, g2, ⟨y, r', g3, g4, rfl, v', u', g5⟩ | ⟨r', g3, rfl, v', u', g5⟩⟩
      · have HX : Hid (KeepsOthers W (w1.setCell ⟨w.heap.size + 1 + 1 + 1, 6, none⟩ (.int .i64 y)) ∧ PX w .ret (pre ++ [x]) (w1.setCell ⟨w.heap.size + 1 + 1 + 1, 6, none⟩ (.int .i64 y))) := by
          have hB3 := (HB0.out.trans g1).trans (setBelow w1 (w.heap.size + 1 + 1 + 1) 6 (.int .i64 y))
          exact ⟨(HS0.out.2.trans g2.2).trans (KeepsOthers.setCell _ _ _), rfl, r', x.n, y, (fold_step HF.out).1 y g3, g4, ⟨_, _, g5.err' y⟩, HBx.out.below hB3 (by omega), HBw.out.trans (hB3.mono (by omega))⟩
        have c6 := g5.c6
        have z6 := g5.free 6
        have e1 : (y != 0) = true := by simp [g4]
        clear g1 g2 g3 g4 g5 f5 f6 c5
        gi_wp2
        exact HX.out
      · have HX : Hid (KeepsOthers W (w1.setCell ⟨w.heap.size + 1 + 1 + 1, 6, none⟩ (.int .i64 0)) ∧ Below w.heap.size W (w1.setCell ⟨w.heap.size + 1 + 1 + 1, 6, none⟩ (.int .i64 0)) ∧ PI w (pre ++ [x]) (w1.setCell ⟨w.heap.size + 1 + 1 + 1, 6, none⟩ (.int .i64 0))) := by
          have hB3 := (HB0.out.trans g1).trans (setBelow w1 (w.heap.size + 1 + 1 + 1) 6 (.int .i64 0))
          exact ⟨(HS0.out.2.trans g2.2).trans (KeepsOthers.setCell _ _ _), hB3.mono (by omega), r', x.n, (fold_step HF.out).2 r' g3, stepL_good HGd.out g3, ⟨_, _, g5.err' 0⟩, HBx.out.below hB3 (by omega), HBw.out.trans (hB3.mono (by omega))⟩
        have c6 := g5.c6
        have z6 := g5.free 6
        clear g1 g2 g3 g5 f5 f6 c5
        gi_wp2
        exact HX.out
    case done =>
      rintro D ys W hD hys ⟨r, line, h1, h2, ⟨v, u, h3⟩, h4, h5⟩ hK
      have hD2 : w.heap.size ≤ D := by rw [HS5.out] at hD; omega
      have f5 := h3.free 5
      have f6 := h3.free 6
      have c5 := h3.c5
      have HR := Lib.hid (h3.line' (((linesW (W8 s)).length : Nat) + 1))
      have HB0 := Lib.hid (setBelow W (w.heap.size + 1 + 1 + 1) 5 (.int .i64 (((linesW (W8 s)).length : Nat) + 1)))
      have HF := Lib.hid h1
      have HBx := Lib.hid h4
      have HBw := Lib.hid h5
      have HK := Lib.hid hK
      have HYS := Lib.hid hys
      have hll : (linesW (W8 s)).length ≤ s.size + 1 := by
        rw [linesW_length]
        have := List.count_le_length (a := (10 : UInt8)) (l := W8 s)
        rw [w8_len] at this
        split <;> omega
      clear h1 h2 h3 h4 h5 hK hys
      gi_wp2
      refine ⟨trivial, ?_⟩
      refine (callsIn_wide.2 (count_any s W hl2)).mono ?_
      rintro e w1 ⟨rfl, rfl⟩
      gi_wp2
      refine ⟨trivial, ?_⟩
      refine (callsIn_wide.2 (end_any _ _ r _ _ ⟨_, _, HR.out⟩)).mono ?_
      rintro e w6 ⟨rfl, hq⟩
      have hR6 := HR.out.below (quietBelow hq _)
      have hB6 : Below (w.heap.size + 1 + 1 + 1) W w6 := HB0.out.trans (quietBelow hq _)
      have hO6 : KeepsOthers W w6 := (KeepsOthers.setCell _ _ _).trans (StrKept.of_below (quietBelow hq _)).2
      have HX : Hid (RdIn (w6.setCell ⟨w.heap.size + 1 + 1 + 1, 6, none⟩ (.int .i64 (endE r))) (w.heap.size + 1 + 1 + 1) r v u (((linesW (W8 s)).length : Nat) + 1) (endE r) ∧ Below (w.heap.size + 1 + 1 + 1) W (w6.setCell ⟨w.heap.size + 1 + 1 + 1, 6, none⟩ (.int .i64 (endE r))) ∧ (w6.setCell ⟨w.heap.size + 1 + 1 + 1, 6, none⟩ (.int .i64 (endE r))).heap[D]? = some (.deferred (some []))) :=
        ⟨hR6.err' _, hB6.trans (setBelow _ _ _ _), (hO6.trans (KeepsOthers.setCell _ _ _)).same D _ HK.out rfl⟩
      have c6 := hR6.c6
      have z6 := hR6.free 6
      clear hR6 hB6 hO6 hq f5 f6 c5
      gi_wp2
      refine ⟨by simp, .inl ⟨_, _, rfl, run_takeDeferred HX.out.2.2, ?_⟩⟩
      have hg := grownBy_putObj' (w6.setCell ⟨w.heap.size + 1 + 1 + 1, 6, none⟩ (.int .i64 (endE r))) D (.deferred none)
      have hkk := kept_of_row (B := w.heap.size) hg (fun r e => by cases e; exact ⟨hD2, _, HX.out.2.2, rfl⟩)
      have h3' := HX.out.1.kept hg.size hkk
      have h4' := (HBx.out.below HX.out.2.1 (by omega)).kept hkk
      have h5' := (HBw.out.trans (HX.out.2.1.mono (by omega))).grown hg (Nat.le_trans HBw.out.size HX.out.2.1.size) (fun k e => by cases e; exact hD2)
      refine leave_parse h3' h4' h5' ?_ ?_
      · unfold parseB parseC
        rw [if_neg (by rw [w8_len]; omega), runL_fold, ← HYS.out, HF.out]
        unfold endR endE
        simp only
        by_cases hc : r.begun = false ∨ (r.cls.length : Int) < r.ann
        · rw [if_pos hc, if_pos hc, if_neg (by omega)]
        · rw [if_neg hc, if_neg hc, if_pos rfl]
      · intro W' x v l e q0 q1 q2 q3
        simp [results, Tryd.f15, go_sem, q0, q1, q2, q3]
    case stop =>
      rintro D c pre W hD hpre ⟨rfl, r, n, e, h1, h2, ⟨v, u, h3⟩, h4, h5⟩ hK
      have hD2 : w.heap.size ≤ D := by rw [HS5.out] at hD; omega
      gi_wp2
      refine ⟨by simp, .inl ⟨_, _, rfl, run_takeDeferred hK, ?_⟩⟩
      have hg := grownBy_putObj' W D (.deferred none)
      have hkk := kept_of_row (B := w.heap.size) hg (fun r e => by cases e; exact ⟨hD2, _, hK, rfl⟩)
      have h3' := h3.kept hg.size hkk
      have h4' := h4.kept hkk
      have h5' := h5.grown hg h5.size (fun k e => by cases e; exact hD2)
      refine leave_parse h3' h4' h5' ?_ ?_
      · rw [if_neg h2]
        unfold parseB parseC
        rw [if_neg (by rw [w8_len]; omega), runL_fold]
        obtain ⟨t, ht⟩ := hpre
        rw [← ht, foldN_append, h1]
      · intro W' x v l e q0 q1 q2 q3
        simp [results, Tryd.f15, go_sem, q0, q1, q2, q3]
end Go.Proofs.YtkannkalbhmlcaaDoor
