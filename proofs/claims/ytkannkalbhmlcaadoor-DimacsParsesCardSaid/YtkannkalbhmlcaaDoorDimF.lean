/-
  The reader: a word after the header.
-/
import Derived.Test.YtkannkalbhmlcaaDoorDimE
import Derived.Deep.AppendLies
import Derived.Deep.RegionLaw
import Derived.Deep.RegionHeld3
namespace Go.Proofs.YtkannkalbhmlcaaDoor
open Go.RowKit Go.Lib
open Go.RowKit (Below)

theorem RdIn.v_form {w : World} {b : Nat} {r : Rd} {v u : Value} {line err : Int} (h : RdIn w b r v u line err) : ∃ a c, v = .slice a r.cls.length c := by
  obtain ⟨vs, h1, _, _⟩ := h.rows
  rcases h1.2 with ⟨hv, h0⟩ | ⟨g, cap, cur, hv, _⟩
  · exact ⟨none, 0, by rw [h0]; exact hv⟩
  · exact ⟨_, cap, hv⟩
theorem RdIn.u_form {w : World} {b : Nat} {r : Rd} {v u : Value} {line err : Int} (h : RdIn w b r v u line err) : ∃ a c, u = .slice a r.cl.length c ∧ IntsR w a r.cl ∧ ∀ p, a = some p → b + 1 ≤ p.block ∧ p.block < w.heap.size := h.cl.parts
/-- A clause has ended. -/
theorem RdIn.close {w w0 w1 : World} {b : Nat} {r : Rd} {v v' : Value} {a : Option Addr} {c : Nat} {vs : List Value} {line err : Int} (h : RdIn w b r v (.slice a r.cl.length c) line err)
    (h2 : ∀ (j : Nat) (z : List Int), r.cls[j]? = some z → ∃ x : Value, vs[j]? = some x ∧ InRow w (b + 1) v x z) (h1 : w.ownsRow (b + 1) 34 1 v r.cls.length vs)
    (hw : Below w.heap.size w w0) (hg : w0.grownBy w1 v.ownBlock) (hat : v'.ownBlock = v.ownBlock ∨ v'.ownBlock = some w0.heap.size) (hown : w1.ownsRow (b + 1) 34 1 v' (r.cls.length + 1) (vs ++ [.slice a r.cl.length c])) :
    RdIn ((w1.setCell ⟨b, 3, none⟩ v').setCell ⟨b, 4, none⟩ (.slice none 0 0)) b { r with cls := r.cls ++ [r.cl], cl := [] } v' (.slice none 0 0) line err ∧ Below b w ((w1.setCell ⟨b, 3, none⟩ v').setCell ⟨b, 4, none⟩ (.slice none 0 0)) ∧ StrKept w ((w1.setCell ⟨b, 3, none⟩ v').setCell ⟨b, 4, none⟩ (.slice none 0 0)) ∧
    w1.heap[b]? = some (.cells (rdCells r v (.slice a r.cl.length c) line err) 53 (0, 0)) := by
  obtain ⟨a2, c2, hu, hi, hp⟩ := h.u_form
  injection hu with e1 _ e3
  subst e1 e3
  have hne : ∀ p : Addr, a = some p → v.ownBlock ≠ some p.block := fun p hp' e => by
    have := (h.v_ne e).1
    rw [hp'] at this
    exact this rfl
  have hbv : v.ownBlock ≠ some b := fun e => by have := (h.v_ne e).2; omega
  have hlt := h.lt
  have hw1 : w1.heap[b]? = some (.cells (rdCells r v (.slice a r.cl.length c) line err) 53 (0, 0)) :=
    (hg.block b (Nat.lt_of_lt_of_le hlt hw.size) (fun e => hbv e.symm)).trans ((hw.block b hlt).trans h.whole)
  have hbt : Built w1 (b + 1) v' (r.cls ++ [r.cl]) := Built.more h2 h1 hw hg hat hown hi (fun p e => ⟨(hp p e).1, (hp p e).2, hne p e⟩)
  obtain ⟨ws, g1, g2⟩ := (hbt.setCell (p := ⟨b, 3, none⟩) (Nat.lt_succ_self b) v').setCell (p := ⟨b, 4, none⟩) (Nat.lt_succ_self b) (.slice none 0 0)
  have hB1 : Below b w w1 := (hw.mono (by omega)).grown hg (by have := hw.size; omega) fun k hk => by have := (h.v_ne hk).2; omega
  have hS1 : StrKept w w1 := by
    refine ⟨fun k cur fr e => ?_, Nat.le_trans hw.size hg.size, fun k o e ho => ?_⟩
    · have hk : k < w.heap.size := (Array.getElem?_eq_some_iff.1 e).1
      refine (hg.block k (Nat.lt_of_lt_of_le hk hw.size) fun e2 => ?_).trans ((hw.block k hk).trans e)
      obtain ⟨cur', fr', hh⟩ := own_tag h1 e2.symm
      rw [hh] at e; simp at e
    · have hk : k < w.heap.size := (Array.getElem?_eq_some_iff.1 e).1
      refine (hg.block k (Nat.lt_of_lt_of_le hk hw.size) fun e2 => ?_).trans ((hw.block k hk).trans e)
      obtain ⟨cur', fr', hh⟩ := own_tag h1 e2.symm
      rw [hh] at e; cases e; cases ho
  refine ⟨⟨?_, ⟨ws, g1, g2, fun x _ p n d _ => by simp [Value.ownBlock]⟩, ?_⟩, (hB1.trans (setBelow _ _ _ _)).trans (setBelow _ _ _ _), (hS1.trans (StrKept.set hw1)).trans (StrKept.set (heap_set _ _ 3 v' _ _ _ hw1)), hw1⟩
  · exact heap_set _ _ 4 _ _ _ _ (heap_set _ _ 3 v' _ _ _ hw1)
  · exact Own.nil _ _
/-- A literal more. -/
theorem RdIn.push {w w0 w1 : World} {b : Nat} {r : Rd} {v u u' : Value} {x : Int} {line err : Int} (h : RdIn w b r v u line err)
    (hw : Below w.heap.size w w0) (hg : w0.grownBy w1 u.ownBlock) (hat : u'.ownBlock = u.ownBlock ∨ u'.ownBlock = some w0.heap.size) (hown : w1.ownsRow (b + 1) 3 1 u' (r.cl.length + 1) (r.cl.map (Value.int .i64) ++ [.int .i64 x])) :
    RdIn (w1.setCell ⟨b, 4, none⟩ u') b { r with cl := r.cl ++ [x] } v u' line err ∧ Below b w (w1.setCell ⟨b, 4, none⟩ u') ∧ StrKept w (w1.setCell ⟨b, 4, none⟩ u') ∧ w1.heap[b]? = some (.cells (rdCells r v u line err) 53 (0, 0)) := by
  obtain ⟨vs, h1, h2, h3⟩ := h.rows
  have hlt := h.lt
  have hbu : u.ownBlock ≠ some b := fun e => by have := (h.u_lt e).1; omega
  have hst : ∀ k, k < w.heap.size → u.ownBlock ≠ some k → w1.heap[k]? = w.heap[k]? := fun k hk hv => (hg.block k (Nat.lt_of_lt_of_le hk hw.size) (fun e => hv e.symm)).trans (hw.block k hk)
  have hsz : w.heap.size ≤ w1.heap.size := Nat.le_trans hw.size hg.size
  have hw1 : w1.heap[b]? = some (.cells (rdCells r v u line err) 53 (0, 0)) := (hst b hlt hbu).trans h.whole
  have hne : ∀ k, k < w.heap.size → u.ownBlock ≠ some k → u'.ownBlock ≠ some k := by
    intro k hk hv
    rcases hat with e | e
    · rw [e]; exact hv
    · rw [e]; intro e2; injection e2 with e2; have := hw.size; omega
  have hB1 : Below b w w1 := (hw.mono (by omega)).grown hg (by have := hw.size; omega) fun k hk => by have := (h.u_lt hk).1; omega
  have hS1 : StrKept w w1 := by
    refine ⟨fun k cur fr e => ?_, hsz, fun k o e ho => ?_⟩
    · refine (hst k (Array.getElem?_eq_some_iff.1 e).1 fun e2 => ?_).trans e
      obtain ⟨cur', fr', hh⟩ := own_tag h.cl e2
      rw [hh] at e; simp at e
    · refine (hst k (Array.getElem?_eq_some_iff.1 e).1 fun e2 => ?_).trans e
      obtain ⟨cur', fr', hh⟩ := own_tag h.cl e2
      rw [hh] at e; cases e; cases ho
  refine ⟨⟨heap_set _ _ 4 _ _ _ _ hw1, ⟨vs, ?_, fun j z hz => ?_, ?_⟩, ?_⟩, hB1.trans (setBelow _ _ _ _), hS1.trans (StrKept.set hw1), hw1⟩
  · have g1 : w1.ownsRow (b + 1) 34 1 v r.cls.length vs := by
      refine ⟨h1.1, ?_⟩
      rcases h1.2 with e | ⟨g, cap, cur, e1, e2, e3, e4⟩
      · exact .inl e
      · exact .inr ⟨g, cap, cur, e1, e2, (hst g (Array.getElem?_eq_some_iff.1 e3).1 (h.v_ne (by rw [e1]; rfl)).1).trans e3, e4⟩
    exact ownsRow_stays g1 fun k hk _ => heap_ne _ _ _ _ _ (by omega)
  · obtain ⟨y, hy, a, c, e1, e2, e3⟩ := h2 j z hz
    refine ⟨y, hy, a, c, e1, (e2.stays hsz fun p e => ?_).stays (by simp) fun p e => heap_ne _ _ _ _ _ (by have := (e3 p e).1; omega), fun p e => ⟨(e3 p e).1, by have := (e3 p e).2.1; simp; omega, (e3 p e).2.2⟩⟩
    exact hst _ (e3 p e).2.1 (h3 y (List.mem_of_getElem? hy) p _ _ (by rw [e1, e]))
  · intro y hy p n c e
    obtain ⟨j, hj⟩ := List.mem_iff_getElem?.1 hy
    have hjl : j < r.cls.length := by have := (List.getElem?_eq_some_iff.1 hj).1; have := h1.1; omega
    obtain ⟨y2, hy2, a, c2, e1, _, e3⟩ := h2 j _ (List.getElem?_eq_getElem hjl)
    rw [hj] at hy2
    cases hy2
    rw [e1] at e
    injection e with e4 _ _
    exact hne _ (e3 p e4).2.1 (h3 y hy p _ c2 (by rw [e1, e4]))
  · exact ownsRow_stays (Own.of hown (by simp) (by simp)) fun k hk _ => heap_ne _ _ _ _ _ (by omega)

theorem slice_one (a : Option Addr) (n c : Nat) : ∀ u ∈ [Value.slice a n c], u.oneCell' = true := by
  intro u hu; simp at hu; subst hu; rfl
/-- What an append of a clause leaves, in the walk's words. -/
theorem RdIn.closed {w : World} {b : Nat} {r : Rd} {v : Value} {a : Option Addr} {c : Nat} {line err : Int} (h : RdIn w b r v (.slice a r.cl.length c) line err) :
    ∃ vs : List Value, (∀ (o : Obj), (w.drew.alloc o).ownsRow (b + 1) 34 1 v r.cls.length vs) ∧
      ∀ (o : Obj) (g cap : Nat) (w1 : World), w1.ownsRow (b + 1) 34 1 (.slice (some ⟨g, 0, none⟩) (r.cls.length + 1) cap) (r.cls.length + 1) (vs ++ [.slice a r.cl.length c]) → (w.drew.alloc o).grownBy w1 v.ownBlock → (v.ownBlock = some g ∨ g = w.heap.size + 1) →
        RdIn ((w1.setCell ⟨b, 3, none⟩ (.slice (some ⟨g, 0, none⟩) (r.cls.length + 1) cap)).setCell ⟨b, 4, none⟩ (.slice none 0 0)) b { r with cls := r.cls ++ [r.cl], cl := [] } (.slice (some ⟨g, 0, none⟩) (r.cls.length + 1) cap) (.slice none 0 0) line err ∧
        Below b w ((w1.setCell ⟨b, 3, none⟩ (.slice (some ⟨g, 0, none⟩) (r.cls.length + 1) cap)).setCell ⟨b, 4, none⟩ (.slice none 0 0)) ∧ StrKept w ((w1.setCell ⟨b, 3, none⟩ (.slice (some ⟨g, 0, none⟩) (r.cls.length + 1) cap)).setCell ⟨b, 4, none⟩ (.slice none 0 0)) ∧
        w1.heap[b]? = some (.cells (rdCells r v (.slice a r.cl.length c) line err) 53 (0, 0)) := by
  obtain ⟨vs, h1, h2, _⟩ := h.rows
  have hbel : ∀ (o : Obj), Below w.heap.size w (w.drew.alloc o) := fun o => (Below.refl _ w).drew.alloc (Nat.le_refl _) o
  refine ⟨vs, fun o => ownsRow_stays h1 fun k _ hk => (hbel o).block k hk, fun o g cap w1 hown hg hat => ?_⟩
  refine RdIn.close h h2 h1 (hbel o) hg ?_ hown
  rcases hat with e | e
  · left; rw [e]; rfl
  · right; simp [Value.ownBlock, e]
theorem heap_cell {w : World} {b i : Nat} {cur : Array Value} {t : TypeId} {fr : Nat × Nat} {x : Value} (h : w.heap[b]? = some (.cells cur t fr)) (hx : cur[i]? = some x) : w.cell? ⟨b, i, none⟩ = some x := by simp [World.cell?, h, hx]
theorem heap_free {w : World} {b i : Nat} {cur : Array Value} {t : TypeId} (h : w.heap[b]? = some (.cells cur t (0, 0))) : w.frozen? ⟨b, i, none⟩ = false := by simp [World.frozen?, h]
def WordPost (w : World) (b : Nat) (r : Rd) (l : Word) (line err : Int) (e : Ending) (w' : World) : Prop :=
  Below b w w' ∧ StrKept w w' ∧ ((∃ x, stepW 1048577 r l = .error x ∧ x ≠ 0 ∧ e = .returned (.int .i64 x) ∧ RdAt w' b r line err) ∨ (∃ r', stepW 1048577 r l = .ok r' ∧ e = .returned (.int .i64 0) ∧ RdAt w' b r' line err))
theorem numV_range (l : Word) : -1048577 ≤ numV 1048577 l ∧ numV 1048577 l ≤ 1048577 := by
  unfold numV num
  cases unsign l with
  | nil => simp
  | cons d t =>
    simp only
    split
    · simp
    · have : ∀ (D : List UInt8) (x y : Nat), x ≤ 1048577 → digs 1048577 x D = some y → y ≤ 1048577 := by
        intro D
        induction D with
        | nil => intro x y hx h; simp [digs] at h; omega
        | cons u t ih =>
          intro x y hx h
          unfold digs at h
          split at h
          · exact ih _ _ (by omega) h
          · simp at h
      cases hd : digs 1048577 0 (d :: t) with
      | none => simp
      | some y =>
        have := this _ _ _ (by omega) hd
        simp only [Option.map_some, Option.getD_some]
        split <;> omega
theorem stepW_none {c : Nat} {r : Rd} {l : Word} (h : numK c l = false) : stepW c r l = .error 4 := by
  unfold numK at h
  unfold stepW
  cases hn : num c l with
  | none => rfl
  | some x => rw [hn] at h; simp at h
theorem stepW_some {c : Nat} {r : Rd} {l : Word} (h : numK c l = true) : stepW c r l =
    if (r.cls.length : Int) = r.ann then .error 4 else if numV c l = 0 then .ok { r with cls := r.cls ++ [r.cl], cl := [] }
    else if r.vars < numV c l ∨ numV c l < -r.vars then .error 3 else if r.cl.length = 4096 then .error 5 else .ok { r with cl := r.cl ++ [numV c l] } := by
  unfold numK at h
  unfold numV stepW
  cases hn : num c l with
  | none => rw [hn] at h; simp at h
  | some x => rfl

set_option maxRecDepth 100000 in
set_option maxHeartbeats 8000000 in
theorem word_any (s : ByteArray) (w : World) (b : Nat) (r : Rd) (line err : Int) (hs : s.size ≤ 65536) (hR : RdAt w b r line err) (hf : Fine r) (hl1 : r.cls.length ≤ 1048576) (hl2 : r.cl.length ≤ 4096) :
    Calls Tryd.prog 45 #[.pointer (some ⟨b, 0, none⟩), .string s] w (WordPost w b r (W8 s) line err) := by
  obtain ⟨v, u, hI⟩ := hR
  obtain ⟨av, cv, rfl⟩ := hI.v_form
  obtain ⟨au, cu, rfl, hu, hp⟩ := hI.u_form
  have HI := Lib.hid hI
  have hn := numV_range (W8 s)
  cases hk : numK 1048577 (W8 s)
  · have HK := Lib.hid hk
    have HX : Hid (numV 1048577 (W8 s) = 0) := by
      have := HK.out
      unfold numK at this
      unfold Hid numV
      cases hn : num 1048577 (W8 s) with
      | none => rfl
      | some x => rw [hn] at this; simp at this
    have HP := Lib.hid (stepW_none (r := r) hk)
    clear hk hu hp hI
    go_enter Tryd.func45, Tryd.ntmps45
    go_wp2_with fail
    refine (number_any s w hs).mono ?_
    rintro e w1 ⟨he, hB⟩
    unfold NumPost at he
    rw [HX.out, HK.out] at he
    subst he
    have HB := Lib.hid hB
    have hI1 := HI.out.below HB.out
    have c0 := hI1.c0
    have c1 := hI1.c1
    have c2 := hI1.c2
    have c3 := hI1.c3
    have c4 := hI1.c4
    have f3 := hI1.free 3
    have f4 := hI1.free 4
    have HI1 := Lib.hid hI1
    clear hI1 hB
    go_wp2
    go_quiet (fail)
    rename_i nq
    have hq : QuietTo w1 (w1.drewN nq) := ⟨nq, rfl⟩
    generalize w1.drewN nq = w2 at hq ⊢
    have hI2 := HI1.out.below (quietBelow hq _)
    have HB2 := Lib.hid (HB.out.trans (quietBelow hq _))
    clear c0 c1 c2 c3 c4 f3 f4 hq
    have HI2 := Lib.hid hI2
    have c2 := hI2.c2
    have c3 := hI2.c3
    have c4 := hI2.c4
    have f3 := hI2.free 3
    have f4 := hI2.free 4
    clear hI2
    go_wp2
    go_ret
    exact ⟨HB2.out.mono (by have := HI.out.lt; omega), StrKept.of_below HB2.out, .inl ⟨_, HP.out, by omega, rfl, _, _, HI2.out⟩⟩
  · have HS := Lib.hid (stepW_some (r := r) hk)
    have HK := Lib.hid hk
    obtain ⟨x, hx⟩ : ∃ x, numV 1048577 (W8 s) = x := ⟨_, rfl⟩
    rw [hx] at HS hn
    have HX := Lib.hid hx
    clear hx hk hu hp hI
    by_cases h1 : (r.cls.length : Int) = r.ann
    · have e1 : ((r.cls.length : Int) == r.ann) = true := by simp [h1]
      have HP := Lib.hid (show stepW 1048577 r (W8 s) = .error 4 from HS.out.trans (by rw [if_pos h1]))
      clear h1
      go_enter Tryd.func45, Tryd.ntmps45
      go_wp2_with fail
      refine (number_any s w hs).mono ?_
      rintro e w1 ⟨he, hB⟩
      unfold NumPost at he
      rw [HX.out, HK.out] at he
      subst he
      have HB := Lib.hid hB
      have hI1 := HI.out.below HB.out
      have c0 := hI1.c0
      have c1 := hI1.c1
      have c2 := hI1.c2
      have c3 := hI1.c3
      have c4 := hI1.c4
      have f3 := hI1.free 3
      have f4 := hI1.free 4
      have HI1 := Lib.hid hI1
      clear hI1 hB
      go_wp2
      go_quiet (fail)
      rename_i nq
      have hq : QuietTo w1 (w1.drewN nq) := ⟨nq, rfl⟩
      generalize w1.drewN nq = w2 at hq ⊢
      have hI2 := HI1.out.below (quietBelow hq _)
      have HB2 := Lib.hid (HB.out.trans (quietBelow hq _))
      clear c0 c1 c2 c3 c4 f3 f4 hq
      have HI2 := Lib.hid hI2
      have c2 := hI2.c2
      have c3 := hI2.c3
      have c4 := hI2.c4
      have f3 := hI2.free 3
      have f4 := hI2.free 4
      clear hI2
      go_wp2
      go_ret
      exact ⟨HB2.out.mono (by have := HI.out.lt; omega), StrKept.of_below HB2.out, .inl ⟨_, HP.out, by omega, rfl, _, _, HI2.out⟩⟩
    · by_cases h2 : x = 0
      · have e1 : ((r.cls.length : Int) == r.ann) = false := by simp [h1]
        subst h2
        have HP := Lib.hid (show stepW 1048577 r (W8 s) = .ok { r with cls := r.cls ++ [r.cl], cl := [] } from HS.out.trans (by rw [if_neg h1, if_pos rfl]))
        go_enter Tryd.func45, Tryd.ntmps45
        go_wp2_with fail
        refine (number_any s w hs).mono ?_
        rintro e w1 ⟨he, hB⟩
        unfold NumPost at he
        rw [HX.out, HK.out] at he
        subst he
        have HB := Lib.hid hB
        have hI1 := HI.out.below HB.out
        have c0 := hI1.c0
        have c1 := hI1.c1
        have c3 := hI1.c3
        have c4 := hI1.c4
        have f3 := hI1.free 3
        have f4 := hI1.free 4
        have HI1 := Lib.hid hI1
        clear hI1 hB
        go_wp2
        go_quiet (fail)
        rename_i nq
        have hq : QuietTo w1 (w1.drewN nq) := ⟨nq, rfl⟩
        generalize w1.drewN nq = w2 at hq ⊢
        have hI2 := HI1.out.below (quietBelow hq _)
        obtain ⟨vs, hv, hc⟩ := hI2.closed
        have HV := Lib.hid hv
        have HC := Lib.hid hc
        obtain ⟨j0, hj, hy0, hy1, hy2⟩ := info_parts Tryd.info34
        have hbn := hI2.lt
        have HB2 := Lib.hid (HB.out.trans (quietBelow hq _))
        clear hv hc c0 c1 c3 c4 f3 f4 hq
        have c3 := hI2.c3
        have c4 := hI2.c4
        have f3 := hI2.free 3
        have f4 := hI2.free 4
        clear hI2
        go_wp2
        go_region_law (refine step_append_lies _ (by rfl) _ _ 22 (by rfl) (b + 1) 34 j0 (.slice none 0 0) 1 24 Tryd.underlying22 hj hy0 hy1 hy2 rfl (by omega) (.slice av r.cls.length cv) r.cls.length vs (by rfl) (HV.out _) ⟨w2.heap.size, 0, none⟩ 1 1 [.slice au r.cl.length cu] (by rfl) (by rfl) (World.news_of_block (cs := #[.slice au r.cl.length cu]) (t := 34) (fr := (0, 0)) (heap_alloc_new w2.drew _)) (slice_one _ _ _) (by omega) (by unfold maxLen; omega) (by omega) (by simp; omega) (w2.heap.size + 1) (by simp) ?_; intro g9 cap9 w7 hown9 hgrow hat hlt; have HX := Lib.hid (HC.out _ _ _ _ hown9 hgrow hat); have k3 := heap_cell (i := 3) HX.out.2.2.2 rfl; have z3 := heap_free (i := 3) HX.out.2.2.2; have k4 := heap_cell (i := 4) HX.out.2.2.2 rfl; have z4 := heap_free (i := 4) HX.out.2.2.2; clear hown9 hgrow hat hlt)
        all_goals
          go_wp2
          go_ret
          exact ⟨(HB2.out.mono (by have := HI.out.lt; omega)).trans HX.out.2.1, (StrKept.of_below HB2.out).trans HX.out.2.2.1, .inr ⟨_, HP.out, rfl, _, _, HX.out.1⟩⟩
      · have e1 : ((r.cls.length : Int) == r.ann) = false := by simp [h1]
        have e2 : (x == 0) = false := by simp [h2]
        have hf1 := hf.1
        have hf2 := hf.2
        by_cases h3 : r.vars < x ∨ x < -r.vars
        · have e3 : r.vars < max x (-x) := by omega
          have HP := Lib.hid (show stepW 1048577 r (W8 s) = .error 3 from HS.out.trans (by rw [if_neg h1, if_neg h2, if_pos h3]))
          clear h1 h2 h3
          go_enter Tryd.func45, Tryd.ntmps45
          go_wp2_with fail
          refine (number_any s w hs).mono ?_
          rintro e w1 ⟨he, hB⟩
          unfold NumPost at he
          rw [HX.out, HK.out] at he
          subst he
          have HB := Lib.hid hB
          have hI1 := HI.out.below HB.out
          have c0 := hI1.c0
          have c1 := hI1.c1
          have c2 := hI1.c2
          have c3 := hI1.c3
          have c4 := hI1.c4
          have f3 := hI1.free 3
          have f4 := hI1.free 4
          have HI1 := Lib.hid hI1
          clear hI1 hB
          go_wp2
          go_quiet (fail)
          rename_i nq
          have hq : QuietTo w1 (w1.drewN nq) := ⟨nq, rfl⟩
          generalize w1.drewN nq = w2 at hq ⊢
          have hI2 := HI1.out.below (quietBelow hq _)
          have HB2 := Lib.hid (HB.out.trans (quietBelow hq _))
          clear c0 c1 c2 c3 c4 f3 f4 hq
          have HI2 := Lib.hid hI2
          have c2 := hI2.c2
          have c3 := hI2.c3
          have c4 := hI2.c4
          have f3 := hI2.free 3
          have f4 := hI2.free 4
          clear hI2
          go_wp2
          go_ret
          exact ⟨HB2.out.mono (by have := HI.out.lt; omega), StrKept.of_below HB2.out, .inl ⟨_, HP.out, by omega, rfl, _, _, HI2.out⟩⟩
        · have e3 : ¬ r.vars < max x (-x) := by omega
          by_cases h4 : r.cl.length = 4096
          · have e4 : ((r.cl.length : Int) == 4096) = true := by simp [h4]
            have HP := Lib.hid (show stepW 1048577 r (W8 s) = .error 5 from HS.out.trans (by rw [if_neg h1, if_neg h2, if_neg h3, if_pos h4]))
            clear h1 h2 h3 h4
            go_enter Tryd.func45, Tryd.ntmps45
            go_wp2_with fail
            refine (number_any s w hs).mono ?_
            rintro e w1 ⟨he, hB⟩
            unfold NumPost at he
            rw [HX.out, HK.out] at he
            subst he
            have HB := Lib.hid hB
            have hI1 := HI.out.below HB.out
            have c0 := hI1.c0
            have c1 := hI1.c1
            have c2 := hI1.c2
            have c3 := hI1.c3
            have c4 := hI1.c4
            have f3 := hI1.free 3
            have f4 := hI1.free 4
            have HI1 := Lib.hid hI1
            clear hI1 hB
            go_wp2
            go_quiet (fail)
            rename_i nq
            have hq : QuietTo w1 (w1.drewN nq) := ⟨nq, rfl⟩
            generalize w1.drewN nq = w2 at hq ⊢
            have hI2 := HI1.out.below (quietBelow hq _)
            have HB2 := Lib.hid (HB.out.trans (quietBelow hq _))
            clear c0 c1 c2 c3 c4 f3 f4 hq
            have HI2 := Lib.hid hI2
            have c2 := hI2.c2
            have c3 := hI2.c3
            have c4 := hI2.c4
            have f3 := hI2.free 3
            have f4 := hI2.free 4
            clear hI2
            go_wp2
            go_ret
            exact ⟨HB2.out.mono (by have := HI.out.lt; omega), StrKept.of_below HB2.out, .inl ⟨_, HP.out, by omega, rfl, _, _, HI2.out⟩⟩
          · have e4 : ((r.cl.length : Int) == 4096) = false := by simp; omega
            have HP := Lib.hid (show stepW 1048577 r (W8 s) = .ok { r with cl := r.cl ++ [x] } from HS.out.trans (by rw [if_neg h1, if_neg h2, if_neg h3, if_neg h4]))
            clear h1 h2 h3 h4
            go_enter Tryd.func45, Tryd.ntmps45
            go_wp2_with fail
            refine (number_any s w hs).mono ?_
            rintro e w1 ⟨he, hB⟩
            unfold NumPost at he
            rw [HX.out, HK.out] at he
            subst he
            have HB := Lib.hid hB
            have hI1 := HI.out.below HB.out
            have c0 := hI1.c0
            have c1 := hI1.c1
            have c2 := hI1.c2
            have c3 := hI1.c3
            have c4 := hI1.c4
            have f3 := hI1.free 3
            have f4 := hI1.free 4
            have HI1 := Lib.hid hI1
            clear hI1 hB
            go_wp2
            go_quiet (fail)
            rename_i nq
            have hq : QuietTo w1 (w1.drewN nq) := ⟨nq, rfl⟩
            generalize w1.drewN nq = w2 at hq ⊢
            have hI2 := HI1.out.below (quietBelow hq _)
            have HB2 := Lib.hid (HB.out.trans (quietBelow hq _))
            clear c0 c1 c2 c3 c4 f3 f4 hq
            have HI2 := Lib.hid hI2
            have c2 := hI2.c2
            have c3 := hI2.c3
            have c4 := hI2.c4
            have f3 := hI2.free 3
            have f4 := hI2.free 4
            have HC := fun o u' w7 => Lib.hid (RdIn.push (w1 := w7) (u' := u') (x := x) hI2 (boxed w2 o))
            have HV := Lib.hid hI2.cl
            obtain ⟨j0, hj, hy0, hy1, hy2⟩ := info_parts Tryd.info3
            have hbn := hI2.lt
            clear hI2
            go_wp2_with (at_builtin; refine wpList_append_own_at _ rfl _ _ 34 rfl (b + 1) 3 j0 (.int .i64 0) 1 8 Tryd.underlying34 hj hy0 hy1 hy2 rfl (by decide) _ _ _ rfl (World.ownsRow.alloc HV.out _) ⟨w2.heap.size, 0, none⟩ 1 1 [.int .i64 x] rfl rfl (one_new rfl) one_int ?d3 ?d4 ?d5 ?_)
            case d3 => unfold maxLen; omega
            case d4 => omega
            case d5 => simp; omega
            intro u' w7 hown' hgrow _ hat
            obtain ⟨g9, cap9, rfl⟩ := Go.Joins.ownsRow_form hown' (by omega)
            have HX7 := Lib.hid ((HC _ _ _).out hgrow (by simpa using hat) hown')
            have k4 := heap_cell (i := 4) HX7.out.2.2.2 rfl
            have z4 := heap_free (i := 4) HX7.out.2.2.2
            clear hown' hgrow hat
            go_wp2
            go_ret
            exact ⟨(HB2.out.mono (by have := HI.out.lt; omega)).trans HX7.out.2.1, (StrKept.of_below HB2.out).trans HX7.out.2.2.1, .inr ⟨_, HP.out, rfl, _, _, HX7.out.1⟩⟩
end Go.Proofs.YtkannkalbhmlcaaDoor
