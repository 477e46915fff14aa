/-
  watch: a clause is noted among those that watch a literal.
-/
import Derived.Test.YtbljkbdbiceokaaRupC
import Derived.Deep.RegionHeld3
import Derived.Deep.RegionLaw
namespace Go.Proofs.Ytbljkbdbiceokaa
open Go.RowKit Go.Lib
open Go.RowKit (Below)

theorem step_call {P : Program} {ops : Array Oper} {o : Oper} {a : Act} {w : World} {K : Act → World → Prop} {Q : Exit → Act → World → Prop} {E : Prop} (hg : o.guard = none) (f : FuncId) (args : Array Value) {v : Value} (hrun : (execOp a.eval o).run P w = .ok (.enter f args) w)
    (hc : Calls P f args w fun e w' => e = .returned v ∧ w' = w) (h : K (a.put o.dst v) w) :
    if Region.wanted o (yielded ops a.tmps) = true then Oper.wp P o a w K Q else E := by
  rw [if_pos (by simp [Region.wanted, hg])]
  unfold Oper.wp
  rw [hrun]
  refine hc.mono ?_
  rintro e w' ⟨rfl, rfl⟩
  exact h

section
variable {B : Nat} {m : Mb} {f : Nat → Value} {tv cv : Value} {fl : Bool} {vs : List Value} {S : Sb} {w : World}
/-- What is behind an append to one list of those that watch, and the store of it. -/
theorem PB.watched (h : PB B m f tv cv fl vs S w) {x z : Int} (hx : x.natAbs ≤ m.n) {w0 w1 : World} {v' : Value} (hb : Below w.heap.size w w0)
    (hown : w1.ownsRow B 3 1 v' ((S.watch x).length + 1) ((S.watch x).map (Value.int .i64) ++ [.int .i64 z])) (hg : w0.grownBy w1 (f (placeN x)).ownBlock) (hat : (f (placeN x)).ownBlock = v'.ownBlock ∨ ∃ g, v'.ownBlock = some g ∧ w.heap.size ≤ g) :
    PB B m (updV f (placeN x) v') tv cv fl vs { S with watch := upd S.watch x (S.watch x ++ [z]) } (w1.setCell ⟨m.wb, placeN x, none⟩ v') ∧ Below B w (w1.setCell ⟨m.wb, placeN x, none⟩ v') ∧
      w1.cell? ⟨m.pb, 3, none⟩ = some (.slice (some ⟨m.wb, 0, none⟩) (2 * m.n + 2) (2 * m.n + 2)) ∧ w1.cell? ⟨m.wb, placeN x, none⟩ = some (f (placeN x)) ∧ w1.frozen? ⟨m.wb, placeN x, none⟩ = false := by
  have hsz : w.heap.size ≤ w1.heap.size := Nat.le_trans hb.size hg.size
  have hst : ∀ b, b < w.heap.size → (f (placeN x)).ownBlock ≠ some b → w1.heap[b]? = w.heap[b]? := fun b hb' hf => (hg.block b (Nat.lt_of_lt_of_le hb' hb.size) (fun e => hf e.symm)).trans (hb.block b hb')
  have hwb := h.lt 2 _ rfl
  have hpb := h.lt 0 _ rfl
  have hne : ∀ i b, own m f tv cv i = some b → i ≠ placeN x + 5 → (f (placeN x)).ownBlock ≠ some b := fun i b hi hne e => hne (h.ap i (placeN x + 5) b hi e)
  refine ⟨h.rowSet hx hsz hst (by rw [List.length_append, List.map_append]; exact hown) (fun g hg' => ?_), ?_, ?_, ?_, ?_⟩
  · rcases hat with e | ⟨g', e, hle⟩
    · left; rw [e]; exact hg'
    · right; rw [e] at hg'; injection hg' with hg'; omega
  · have h4 : Below B w w1 := (hb.mono h.size).grown hg (by have := hb.size; have := h.size; omega) (fun b hb => ((h.rows x).lt b hb).1)
    exact h4.setCell hwb.1 _
  · rw [World.cell?_of_block (a := ⟨m.pb, 3, none⟩) (hst _ hpb.2 (hne 0 _ rfl (by omega)))]; exact h.blk.cell rfl
  · rw [World.cell?_of_block (a := ⟨m.wb, placeN x, none⟩) (hst _ hwb.2 (hne 2 _ rfl (by omega)))]; exact h.place (placeN_lt hx)
  · rw [World.frozen?_of_block (a := ⟨m.wb, placeN x, none⟩) (hst _ hwb.2 (hne 2 _ rfl (by omega)))]; exact h.wt.free _

set_option maxRecDepth 100000 in
set_option maxHeartbeats 4000000 in
theorem bwatch_any (h : PB B m f tv cv fl vs S w) {x z : Int} (hx : x.natAbs ≤ m.n) (hn : m.n ≤ 1000000) (hl : (S.watch x).length ≤ 1000000000) :
    Calls Try.prog 67 #[.pointer (some ⟨m.pb, 0, none⟩), .int .i64 z, .int .i64 x] w fun e w' => e = .returned (.tuple #[]) ∧ (∃ f', PB B m f' tv cv fl vs { S with watch := upd S.watch x (S.watch x ++ [z]) } w') ∧ Below B w w' := by
  obtain ⟨p, hp⟩ : ∃ p, placeN x = p := ⟨_, rfl⟩
  have hplt := placeN_lt hx
  rw [hp] at hplt
  obtain ⟨ra, rc, hfv⟩ := cvForm (h.rows x)
  rw [hp] at hfv
  have hx1 : -1000000 ≤ x := by omega
  have hx2 : x ≤ 1000000 := by omega
  have hp1 : (0 : Int) ≤ (p : Int) := by omega
  have hp2 : (p : Int) < 2 * (m.n : Int) + 2 := by omega
  have KP := Lib.hid (fun W => place_is hp hx1 hx2 W)
  have HP := Lib.hid h
  have HFV := Lib.hid hfv
  have HPP := Lib.hid hp
  have HX := Lib.hid hx
  have hsz := h.size
  have c3 : w.cell? ⟨m.pb, 3, none⟩ = some (.slice (some ⟨m.wb, 0, none⟩) (2 * m.n + 2) (2 * m.n + 2)) := h.blk.cell rfl
  have c4 : w.cell? ⟨m.wb, p, none⟩ = some (.slice ra (S.watch x).length rc) := by rw [← hfv]; exact h.place hplt
  have hpb := h.lt 0 _ rfl
  have hwb := h.lt 2 _ rfl
  obtain ⟨i0, hi, hz0, hz1, hz2⟩ := info_parts Try.info3
  have HROW : Hid (w.ownsRow B 3 1 (.slice ra (S.watch x).length rc) (S.watch x).length ((S.watch x).map (Value.int .i64))) := by
    have h1 := h.rows x; rw [hp, hfv] at h1; exact h1
  have HW9 : Hid ((S.watch x).length + 1 ≤ maxLen ∧ ((S.watch x).length + 1) * 8 ≤ 140737488355328 ∧ ∀ o, B ≤ (w.alloc o).drew.heap.size) := ⟨(roomy (by omega)).1, (roomy (by omega)).2.1, fun o => by simp; omega⟩
  have HPUT : Hid (∀ (o : Obj) w7 g9 cap9, w7.ownsRow B 3 1 (.slice (some ⟨g9, 0, none⟩) ((S.watch x).length + 1) cap9) ((S.watch x).length + 1) ((S.watch x).map (Value.int .i64) ++ [.int .i64 z]) → (w.alloc o).drew.grownBy w7 (Value.slice ra (S.watch x).length rc).ownBlock → ((Value.slice ra (S.watch x).length rc).ownBlock = some g9 ∨ g9 = w.heap.size + 1) →
      Hid (∃ f', PB B m f' tv cv fl vs { S with watch := upd S.watch x (S.watch x ++ [z]) } (w7.setCell ⟨m.wb, p, none⟩ (.slice (some ⟨g9, 0, none⟩) ((S.watch x).length + 1) cap9))) ∧ Hid (Below B w (w7.setCell ⟨m.wb, p, none⟩ (.slice (some ⟨g9, 0, none⟩) ((S.watch x).length + 1) cap9))) ∧
      w7.cell? ⟨m.pb, 3, none⟩ = some (.slice (some ⟨m.wb, 0, none⟩) (2 * m.n + 2) (2 * m.n + 2)) ∧ w7.cell? ⟨m.wb, p, none⟩ = some (.slice ra (S.watch x).length rc) ∧ w7.frozen? ⟨m.wb, p, none⟩ = false ∧ (w7.setCell ⟨m.wb, p, none⟩ (.slice (some ⟨g9, 0, none⟩) ((S.watch x).length + 1) cap9)).cell? ⟨m.pb, 3, none⟩ = some (.slice (some ⟨m.wb, 0, none⟩) (2 * m.n + 2) (2 * m.n + 2))) := by
    intro o w7 g9 cap9 hown hg hat
    have h1 := HP.out.watched (v' := .slice (some ⟨g9, 0, none⟩) ((S.watch x).length + 1) cap9) HX.out (boxed w o).drew hown (by rw [HPP.out, HFV.out]; exact hg) (by
      rw [HPP.out, HFV.out]
      rcases hat with e | e
      · exact .inl e
      · exact .inr ⟨g9, rfl, by omega⟩)
    rw [HPP.out, HFV.out] at h1
    exact ⟨⟨_, h1.1⟩, h1.2.1, h1.2.2.1, h1.2.2.2.1, h1.2.2.2.2, h1.1.blk.cell rfl⟩
  have HS0 : Hid (w.drew.cell? ⟨m.pb, 3, none⟩ = some (.slice (some ⟨m.wb, 0, none⟩) (2 * m.n + 2) (2 * m.n + 2)) ∧ w.drew.cell? ⟨m.wb, p, none⟩ = some (.slice ra (S.watch x).length rc)) := ⟨c3, c4⟩
  have HS1 : Hid (∀ o, (w.alloc o).drew.cell? ⟨m.pb, 3, none⟩ = some (.slice (some ⟨m.wb, 0, none⟩) (2 * m.n + 2) (2 * m.n + 2)) ∧ (w.alloc o).drew.cell? ⟨m.wb, p, none⟩ = some (.slice ra (S.watch x).length rc)) := fun o =>
    ⟨by rw [World.cell?_of_block (a := ⟨m.pb, 3, none⟩) ((boxed w o).drew.block m.pb hpb.2)]; exact c3, by rw [World.cell?_of_block (a := ⟨m.wb, p, none⟩) ((boxed w o).drew.block m.wb hwb.2)]; exact c4⟩
  clear h hfv hp hx hpb hwb hl hplt hn
  go_enter Try.func67, Try.ntmps67
  go_wp2
  have c3a : ∀ o, (w.alloc o).drew.cell? ⟨m.pb, 3, none⟩ = some (.slice (some ⟨m.wb, 0, none⟩) (2 * m.n + 2) (2 * m.n + 2)) := fun o => (HS1.out o).1
  have c4a : ∀ o, (w.alloc o).drew.cell? ⟨m.wb, p, none⟩ = some (.slice ra (S.watch x).length rc) := fun o => (HS1.out o).2
  go_region_law
    (first | (refine step_call rfl 74 #[.int .i64 x] ?_ (KP.out _) ?_; · (simp [go_sem]; done)) | (refine step_append_lies _ (by rfl) _ _ 23 (by rfl) B 3 i0 (.int .i64 0) 1 8 Try.underlying23 hi hz0 hz1 hz2 rfl (by omega) (.slice ra (S.watch x).length rc) (S.watch x).length ((S.watch x).map (Value.int .i64)) (by rfl) ((World.ownsRow.alloc HROW.out _).drew) ⟨w.heap.size, 0, none⟩ 1 1 [.int .i64 z] (by rfl) (by rfl) (World.news_of_block (cs := #[.int .i64 z]) (t := 3) (fr := (0, 0)) (heap_alloc_new w _)) one_int (by omega) HW9.out.1 HW9.out.2.1 (HW9.out.2.2 _) (w.heap.size + 1) (by simp) ?_; intro g9 cap9 w7 hown9 hgrow hat hlt9; obtain ⟨HP8, HB8, c7, c8, f8, c9⟩ := HPUT.out _ _ _ _ hown9 hgrow hat))
  all_goals (go_wp2_with fail; go_end0; exact ⟨rfl, HP8.out, HB8.out⟩)
end
end Go.Proofs.Ytbljkbdbiceokaa
