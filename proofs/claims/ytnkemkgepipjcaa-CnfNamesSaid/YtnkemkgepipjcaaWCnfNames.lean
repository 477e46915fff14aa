/-
  CnfNames' walk.
-/
import Derived.Test.YtnkemkgepipjcaaCnfR
import Derived.OwnWalk
import Derived.Deep.RegionHeld3
import Derived.Deep.DrawnRows
namespace Go.Proofs.Ytnkemkgepipjcaa
open Go.RowKit Go.Lib
open Go.RowKit (Below)
attribute [local go_sem ↓] Go.wp_at_zero Go.wp_at_succ

theorem KI.stays {w w' : World} {a : Option Addr} {z : List Int} (h : KI .i64 w a z) (hs : w.heap.size ≤ w'.heap.size) (hb : ∀ p : Addr, a = some p → w'.heap[p.block]? = w.heap[p.block]?) : KI .i64 w' a z := KI.of (IntsR.stays h hs hb)
theorem Grid.put {w : World} {B g : Nat} {zss : List (List Int)} (hg : Grid w B g zss) {j c : Nat} {h : Option Addr} {z : List Int} (hk : KI .i64 w h z) (hp : ∀ p, h = some p → p.block ≠ g) (hj : j < zss.length) :
    Grid (w.setCell ⟨g, j, none⟩ (.slice h z.length c)) B g (zss.set j z) := by
  refine ⟨hg.base, by have := hg.lt; simpa using this, fun i y hy => ?_, fun i => ?_⟩
  · by_cases hi : i = j
    · subst hi
      rw [List.getElem?_set_self hj] at hy
      cases hy
      obtain ⟨a, d, h1, _⟩ := hg.cells i _ (List.getElem?_eq_getElem hj)
      exact ⟨h, c, World.cell?_setCell_same _ _ _ h1, hk.stays (by simp) (fun p e => Below.heap_setCell w _ _ _ (hp p e)), hp⟩
    · rw [List.getElem?_set_ne (fun e => hi e.symm)] at hy
      obtain ⟨a, d, h1, h2, h3⟩ := hg.cells i y hy
      refine ⟨a, d, ?_, h2.stays (by simp) (fun p e => Below.heap_setCell w _ _ _ (h3 p e)), h3⟩
      exact (World.cell?_setCell_other _ _ _ _ (by intro e; injection e with _ e _; exact hi e.symm)).trans h1
  · rw [World.frozen?_setCell]; exact hg.free i
theorem Grid.below {w w' : World} {B g : Nat} {zss : List (List Int)} (hg : Grid w B g zss) (hb : Below w.heap.size w w') : Grid w' B g zss where
  base := hg.base
  lt := by have := hg.lt; have := hb.size; omega
  cells := fun j z hz => by
    obtain ⟨h, c, h1, h2, h3⟩ := hg.cells j z hz
    exact ⟨h, c, (hb.cell (p := ⟨g, j, none⟩) hg.lt).trans h1, h2.below hb, h3⟩
  free := fun j => (hb.frozen (p := ⟨g, j, none⟩) hg.lt).trans (hg.free j)

theorem isSome_of {o : Option Value} {v : Value} (h : o = some v) : o.isSome = true := by rw [h]; rfl
/-- The formula of the examples with another clause at the place j: what is stored, and what is read then. -/
theorem Grid.cellAt {w : World} {B g : Nat} {zss : List (List Int)} (hg : Grid w B g zss) {j : Nat} (hj : j < zss.length) : ∃ u, w.cell? ⟨g, j, none⟩ = some u := by
  obtain ⟨h, c, h1, _⟩ := hg.cells j _ (List.getElem?_eq_getElem hj)
  exact ⟨_, h1⟩
def gL : List (List Int) := [[1, 2], [0], [-2, -3]]
def tL : List (List Int) := [[2, 1], [-1, 3], [-2, -3]]
theorem gL_all : AllLen gL := by
  intro z hz
  simp [gL] at hz
  rcases hz with rfl | rfl | rfl <;> (unfold maxLen; simp)
theorem tL_all : AllLen tL := by
  intro z hz
  simp [tL] at hz
  rcases hz with rfl | rfl | rfl <;> (unfold maxLen; simp)
theorem ex_f : checkF 2 threeL = 3 := by decide +kernel
theorem ex_g : checkF 3 gL = 3 := by decide +kernel
theorem ex_a : firstN 3 [false, false, false] threeL = 0 ∧ firstE 3 [false, false, false] threeL = 0 := by decide +kernel
theorem ex_b : firstN 3 [true, true, true] threeL = 2 ∧ firstE 3 [true, true, true] threeL = 0 := by decide +kernel
theorem ex_i : firstN 3 [true] threeL = 0 ∧ firstE 3 [true] threeL = 2 := by decide +kernel
theorem ex_c : firstN 0 [] [] = -1 ∧ firstE 0 [] [] = 0 := by decide +kernel
theorem ex_t : eqFm 3 tL 3 threeL = false := by decide +kernel
theorem ex_e : eqFm 3 threeL 3 threeL = true := by decide +kernel

theorem errs_zero' {W : Int} {L : List (List Int)} (h : ∀ z ∈ L, checkI W z = 0) : errs W L = 0 := errs_none fun _ z _ hz => h z (List.mem_of_getElem? hz)
theorem nil_rows {w : World} {B g n : Nat} (h : w.ownsRow B 36 1 (.slice (some ⟨g, 0, none⟩) n n) n (madeCells (Value.slice none 0 0).cells (n * 1)).toList) {off : Nat} {Z : List (List Int)} (hZ : off + Z.length ≤ n) (hz : ∀ z ∈ Z, z = []) : RowsR .i64 w (some ⟨g, off, none⟩) Z := by
  refine .inr ⟨g, off, rfl, (h.lt g rfl).2, fun j hj => ?_⟩
  have e0 : Z.getD j [] = [] := hz _ (List.mem_of_getElem? (getD_some Z [] j hj))
  rw [e0]
  refine ⟨none, 0, ?_, .inl rfl⟩
  have hc := World.ownsRow.cellAt h (off + j) (by omega)
  have e1 : (madeCells (Value.slice none 0 0).cells (n * 1)).toList = List.replicate (n * 1) (Value.slice none 0 0) := toList_madeCells_one (Value.slice none 0 0) (n * 1)
  rw [e1, List.getElem?_replicate, if_pos (by omega)] at hc
  exact hc
theorem nil_all {Z : List (List Int)} (hz : ∀ z ∈ Z, z = []) : AllLen Z := by
  intro z h; rw [hz z h]; unfold maxLen; simp
theorem nil_check {Z : List (List Int)} (hz : ∀ z ∈ Z, z = []) (hl : Z.length ≤ 1048576) : checkF 0 Z = 0 := by
  rw [checkF_in (by omega) (by omega)]
  refine errs_zero' fun z h => ?_
  rw [hz z h]; decide +kernel
theorem moveR {W W' : World} {a : Option Addr} {L : List (List Int)} (h : Hid (RowsR .i64 W a L)) (hb : Hid (Below W.heap.size W W')) : Hid (RowsR .i64 W' a L) := h.out.below hb.out

set_option maxRecDepth 100000 in
set_option maxHeartbeats 8000000 in
theorem cnfNames_walk (w : World) : Calls Try.prog 6 #[] w fun e w' => e = .returned (.bool true) ∧ Below w.heap.size w w' := by
  obtain ⟨j0, hj, hy0, hy1, hy2⟩ := info_parts Try.info36
  go_enter Try.func6, Try.ntmps6
  go_wp2_with fail
  refine (three_any _).mono ?_
  rintro e w1 ⟨g1, rfl, hG, hB⟩
  have HG1 := Lib.hid (hG.below (boxed w1 (.cells #[.int .i64 2, .slice (some ⟨g1, 0, none⟩) 3 3] 24)))
  have HT1 := Lib.hid (Two.new w1 (.int .i64 2) (.slice (some ⟨g1, 0, none⟩) 3 3))
  have HB1 := Lib.hid (hB.alloc hB.size (.cells #[.int .i64 2, .slice (some ⟨g1, 0, none⟩) 3 3] 24))
  clear hG hB
  go_wp2_with fail
  refine (three_any _).mono ?_
  rintro e w2 ⟨g2, rfl, hG, hB⟩
  have hgl : g2 < w2.heap.size := hG.lt
  have hgb : w1.heap.size + 1 ≤ g2 := by have := hG.base; simpa using this
  have hww : w.heap.size ≤ w1.heap.size + 1 := by have := HB1.out.size; simp at this; omega
  have hw1 : w1.heap.size < w2.heap.size := by have := hB.size; simp at this; omega
  have hB1s : (w1.alloc (.cells #[.int .i64 2, .slice (some ⟨g1, 0, none⟩) 3 3] 24)).heap.size = w1.heap.size + 1 := by simp
  have hn1 : ¬ g2 = w2.heap.size := by omega
  have hn2 : ¬ w2.heap.size = g2 := by omega
  have hn3 : ¬ g2 = w1.heap.size := by omega
  have hn4 : ¬ w1.heap.size = g2 := by omega
  obtain ⟨u2, hcw⟩ := hG.cellAt (j := 1) (by decide)
  have hfw := hG.free 1
  have hT1 := HT1.out.below hB HT1.out.lt
  have d0 := hT1.c0
  have d1 := hT1.c1
  rw [hB1s] at hB
  have eX : ((w2.alloc (.cells #[.int .i64 3, .slice (some ⟨g2, 0, none⟩) 3 3] 24)).alloc (.cells #[.int .i64 0] 3)).setCell ⟨g2, 1, none⟩ (.slice (some ⟨w2.heap.size + 1, 0, none⟩) 1 1) =
      ((w2.setCell ⟨g2, 1, none⟩ (.slice (some ⟨w2.heap.size + 1, 0, none⟩) 1 1)).alloc (.cells #[.int .i64 3, .slice (some ⟨g2, 0, none⟩) 3 3] 24)).alloc (.cells #[.int .i64 0] 3) := by
    rw [World.setCell_alloc_past _ _ _ _ (by simp; omega), World.setCell_alloc_past _ _ _ _ hgl]
  have HFX : Hid (Below (w1.heap.size + 1) (w1.alloc (.cells #[.int .i64 2, .slice (some ⟨g1, 0, none⟩) 3 3] 24)) (((w2.setCell ⟨g2, 1, none⟩ (.slice (some ⟨w2.heap.size + 1, 0, none⟩) 1 1)).alloc (.cells #[.int .i64 3, .slice (some ⟨g2, 0, none⟩) 3 3] 24)).alloc (.cells #[.int .i64 0] 3))) := by
    unfold Hid; rw [← eX]
    exact ((hB.alloc (by omega) _).alloc (by simp; omega) _).setCell (p := ⟨g2, 1, none⟩) hgb _
  have HT2 : Hid (Two (((w2.setCell ⟨g2, 1, none⟩ (.slice (some ⟨w2.heap.size + 1, 0, none⟩) 1 1)).alloc (.cells #[.int .i64 3, .slice (some ⟨g2, 0, none⟩) 3 3] 24)).alloc (.cells #[.int .i64 0] 3)) w2.heap.size (.int .i64 3) (.slice (some ⟨g2, 0, none⟩) 3 3)) := by
    unfold Hid; rw [← eX]
    exact ((Two.new w2 _ _).alloc _).far hn2 _
  have HG2 : Hid (Grid (((w2.setCell ⟨g2, 1, none⟩ (.slice (some ⟨w2.heap.size + 1, 0, none⟩) 1 1)).alloc (.cells #[.int .i64 3, .slice (some ⟨g2, 0, none⟩) 3 3] 24)).alloc (.cells #[.int .i64 0] 3)) (w1.heap.size + 1) g2 gL) := by
    unfold Hid; rw [← eX]
    have h := (hG.below (boxed w2 (.cells #[.int .i64 3, .slice (some ⟨g2, 0, none⟩) 3 3] 24))).below (boxed _ (.cells #[.int .i64 0] 3))
    rw [hB1s] at h
    exact h.put (j := 1) (c := 1) (z := [0]) (KI.of (IntsR.lit _ _ _ _ (by simp) rfl)) (fun p e => by cases e; simp; omega) (by decide)
  have hsz : ((((w2.setCell ⟨g2, 1, none⟩ (.slice (some ⟨w2.heap.size + 1, 0, none⟩) 1 1)).alloc (.cells #[.int .i64 3, .slice (some ⟨g2, 0, none⟩) 3 3] 24)).alloc (.cells #[.int .i64 0] 3)).heap.size) = w2.heap.size + 2 := by simp
  have HSZ := Lib.hid hsz
  clear hG hB eX hsz hB1s hT1
  go_wp2_with fail
  generalize ((w2.setCell ⟨g2, 1, none⟩ (.slice (some ⟨w2.heap.size + 1, 0, none⟩) 1 1)).alloc (.cells #[.int .i64 3, .slice (some ⟨g2, 0, none⟩) 3 3] 24)).alloc (.cells #[.int .i64 0] 3) = w3 at HFX HT2 HG2 HSZ ⊢
  have hs3 : w3.heap.size = w2.heap.size + 2 := HSZ.out
  refine (checkF_is (zss := threeL) (l := 3) rfl ex_f _ _ _ (by unfold maxLen; omega) threeL_all ((HG1.out.rows).below (Below.mono HFX.out (by simp)))).mono ?_
  rintro e w4 ⟨rfl, hB4⟩
  have HB4 := Lib.hid ((HB1.out.trans (HFX.out.mono hww)).trans (hB4.mono (by omega)))
  have hT4 := HT2.out.below hB4 HT2.out.lt
  have c0 := hT4.c0
  have c1 := hT4.c1
  have HG4 := Lib.hid (HG2.out.below hB4)
  clear hB4 hT4 hs3 HSZ HT2 HG2 HFX HG1 HT1 HB1 hcw hfw d0 d1
  go_wp2_with fail
  refine (checkF_is (zss := gL) (l := 3) rfl ex_g _ _ _ (by unfold maxLen; omega) gL_all HG4.out.rows).mono ?_
  rintro e w5 ⟨rfl, hB5⟩
  have HB5 := Lib.hid (HB4.out.trans (hB5.mono HB4.out.size))
  clear hB5 c0 c1 HG4 HB4 hn1 hn2 hn3 hn4 hgl hgb hww hw1
  go_wp2_with fail
  refine (three_any _).mono ?_
  rintro e w6 ⟨g, rfl, hG, hB⟩
  have HR := Lib.hid (hG.rows.alloc (.cells #[.bool false, .bool false, .bool false] 4))
  have HBa := Lib.hid ((HB5.out.trans (hB.mono HB5.out.size)).alloc (by have := HB5.out.size; have := hB.size; omega) (.cells #[.bool false, .bool false, .bool false] 4))
  clear hG hB HB5
  go_wp2_with fail
  refine (first_is (zss := threeL) (m := [false, false, false]) (l := 3) (k := 3) rfl rfl ex_a.1 ex_a.2 _ _ _ _ _ (by unfold maxLen; omega) threeL_all (by unfold maxLen; omega) HR.out (BoolsR.lit _ _ _ _ rfl rfl)).mono ?_
  rintro e w7 ⟨rfl, hB⟩
  have HB := Lib.hid (HBa.out.trans (hB.mono HBa.out.size))
  clear hB HR HBa
  go_wp2_with fail
  refine (three_any _).mono ?_
  rintro e w6 ⟨g, rfl, hG, hB⟩
  have HR := Lib.hid (hG.rows.alloc (.cells #[.bool true, .bool true, .bool true] 4))
  have HBa := Lib.hid ((HB.out.trans (hB.mono HB.out.size)).alloc (by have := HB.out.size; have := hB.size; omega) (.cells #[.bool true, .bool true, .bool true] 4))
  clear hG hB HB
  go_wp2_with fail
  refine (first_is (zss := threeL) (m := [true, true, true]) (l := 3) (k := 3) rfl rfl ex_b.1 ex_b.2 _ _ _ _ _ (by unfold maxLen; omega) threeL_all (by unfold maxLen; omega) HR.out (BoolsR.lit _ _ _ _ rfl rfl)).mono ?_
  rintro e w7 ⟨rfl, hB⟩
  have HB := Lib.hid (HBa.out.trans (hB.mono HBa.out.size))
  clear hB HR HBa
  go_wp2_with fail
  refine (three_any _).mono ?_
  rintro e w6 ⟨g, rfl, hG, hB⟩
  have HR := Lib.hid (hG.rows.alloc (.cells #[.bool true] 4))
  have HBa := Lib.hid ((HB.out.trans (hB.mono HB.out.size)).alloc (by have := HB.out.size; have := hB.size; omega) (.cells #[.bool true] 4))
  clear hG hB HB
  go_wp2_with fail
  refine (first_is (zss := threeL) (m := [true]) (l := 3) (k := 1) rfl rfl ex_i.1 ex_i.2 _ _ _ _ _ (by unfold maxLen; omega) threeL_all (by unfold maxLen; omega) HR.out (BoolsR.lit _ _ _ _ rfl rfl)).mono ?_
  rintro e w7 ⟨rfl, hB⟩
  have HB := Lib.hid (HBa.out.trans (hB.mono HBa.out.size))
  clear hB HR HBa
  go_wp2_with fail
  refine (first_is (zss := []) (m := []) (l := 0) (k := 0) rfl rfl ex_c.1 ex_c.2 _ _ _ _ _ (by unfold maxLen; omega) (fun z hz => by cases hz) (by unfold maxLen; omega) (.inl rfl) (.inl rfl)).mono ?_
  rintro e w8 ⟨rfl, hB⟩
  have HB8 := Lib.hid (HB.out.trans (hB.mono HB.out.size))
  clear hB HB
  go_wp2_with fail
  refine (three_any _).mono ?_
  rintro e w9 ⟨g3, rfl, hG, hB⟩
  have hgl : g3 < w9.heap.size := hG.lt
  have hgb : w8.heap.size ≤ g3 := hG.base
  have hww : w.heap.size ≤ w8.heap.size := HB8.out.size
  have hw9 : w8.heap.size ≤ w9.heap.size := hB.size
  have hn1 : ¬ g3 = w9.heap.size := by omega
  have hn2 : ¬ w9.heap.size = g3 := by omega
  obtain ⟨u3, hcw⟩ := hG.cellAt (j := 0) (by decide)
  have hfw := hG.free 0
  have eX : ((w9.alloc (.cells #[.int .i64 3, .slice (some ⟨g3, 0, none⟩) 3 3] 24)).alloc (.cells #[.int .i64 2, .int .i64 1] 3)).setCell ⟨g3, 0, none⟩ (.slice (some ⟨w9.heap.size + 1, 0, none⟩) 2 2) =
      ((w9.setCell ⟨g3, 0, none⟩ (.slice (some ⟨w9.heap.size + 1, 0, none⟩) 2 2)).alloc (.cells #[.int .i64 3, .slice (some ⟨g3, 0, none⟩) 3 3] 24)).alloc (.cells #[.int .i64 2, .int .i64 1] 3) := by
    rw [World.setCell_alloc_past _ _ _ _ (by simp; omega), World.setCell_alloc_past _ _ _ _ hgl]
  have HB9 : Hid (Below w.heap.size w (((w9.setCell ⟨g3, 0, none⟩ (.slice (some ⟨w9.heap.size + 1, 0, none⟩) 2 2)).alloc (.cells #[.int .i64 3, .slice (some ⟨g3, 0, none⟩) 3 3] 24)).alloc (.cells #[.int .i64 2, .int .i64 1] 3))) := by
    unfold Hid; rw [← eX]
    exact (((HB8.out.trans (hB.mono hww)).alloc (by omega) _).alloc (by simp; omega) _).setCell (p := ⟨g3, 0, none⟩) (by show w.heap.size ≤ g3; omega) _
  have HT9 : Hid (Two (((w9.setCell ⟨g3, 0, none⟩ (.slice (some ⟨w9.heap.size + 1, 0, none⟩) 2 2)).alloc (.cells #[.int .i64 3, .slice (some ⟨g3, 0, none⟩) 3 3] 24)).alloc (.cells #[.int .i64 2, .int .i64 1] 3)) w9.heap.size (.int .i64 3) (.slice (some ⟨g3, 0, none⟩) 3 3)) := by
    unfold Hid; rw [← eX]
    exact ((Two.new w9 _ _).alloc _).far hn2 _
  have HG9 : Hid (Grid (((w9.setCell ⟨g3, 0, none⟩ (.slice (some ⟨w9.heap.size + 1, 0, none⟩) 2 2)).alloc (.cells #[.int .i64 3, .slice (some ⟨g3, 0, none⟩) 3 3] 24)).alloc (.cells #[.int .i64 2, .int .i64 1] 3)) w8.heap.size g3 tL) := by
    unfold Hid; rw [← eX]
    have h := (hG.below (boxed w9 (.cells #[.int .i64 3, .slice (some ⟨g3, 0, none⟩) 3 3] 24))).below (boxed _ (.cells #[.int .i64 2, .int .i64 1] 3))
    exact h.put (j := 0) (c := 2) (z := [2, 1]) (KI.of (IntsR.lit _ _ _ _ (by simp) rfl)) (fun p e => by cases e; simp; omega) (by decide)
  clear hG hB eX HB8
  go_wp2
  generalize hGW : ((w9.setCell ⟨g3, 0, none⟩ (.slice (some ⟨w9.heap.size + 1, 0, none⟩) 2 2)).alloc (.cells #[.int .i64 3, .slice (some ⟨g3, 0, none⟩) 3 3] 24)).alloc (.cells #[.int .i64 2, .int .i64 1] 3) = wa at HB9 HT9 HG9 ⊢
  clear hGW hcw hfw
  have hza : w9.heap.size < wa.heap.size := HT9.out.lt
  have HH : Hid (∀ w', Hid (Below wa.heap.size wa w') → w'.cell? ⟨w9.heap.size, 0, none⟩ = some (.int .i64 3) ∧ w'.cell? ⟨w9.heap.size, 1, none⟩ = some (.slice (some ⟨g3, 0, none⟩) 3 3) ∧ Hid (Below wa.heap.size wa w')) :=
    fun w' hb => ⟨(HT9.out.below hb.out hza).c0, (HT9.out.below hb.out hza).c1, hb⟩
  have HD : Hid (Below wa.heap.size wa wa.drew) := (Below.refl _ _).drew
  have K21 : Hid (∀ W, Hid (Below wa.heap.size wa W) → Calls Try.prog 21 #[] W fun e w' => ∃ g, e = .returned (.agg #[.int .i64 3, .slice (some ⟨g, 0, none⟩) 3 3]) ∧ Hid (RowsR .i64 w' (some ⟨g, 0, none⟩) threeL) ∧ Hid (Below wa.heap.size wa w') ∧ Hid (Below W.heap.size W w')) := fun W hW =>
    (three_any W).mono fun e w' ⟨g, he, hG, hb⟩ => ⟨g, he, hG.rows, hW.out.trans (hb.mono hW.out.size), hb⟩
  have K19t : Hid (∀ W g, Hid (Below wa.heap.size wa W) → Hid (RowsR .i64 W (some ⟨g, 0, none⟩) threeL) → Calls Try.prog 19 #[.agg #[.int .i64 3, .slice (some ⟨g3, 0, none⟩) 3 3], .agg #[.int .i64 3, .slice (some ⟨g, 0, none⟩) 3 3]] W fun e w' => e = .returned (.bool false) ∧ Hid (Below wa.heap.size wa w') ∧ Hid (Below W.heap.size W w')) := fun W g hW hR =>
    (cnfEqual_is (n := 3) (k := 3) (xs := tL) (ys := threeL) (i := 3) (j := 3) rfl rfl ex_t _ _ _ _ W (by unfold maxLen; omega) tL_all (HG9.out.rows.below hW.out) hR.out).mono fun e w' ⟨he, hb⟩ => ⟨he, hW.out.trans (hb.mono hW.out.size), hb⟩
  have K19e : Hid (∀ W ga gb, Hid (Below wa.heap.size wa W) → Hid (RowsR .i64 W (some ⟨ga, 0, none⟩) threeL) → Hid (RowsR .i64 W (some ⟨gb, 0, none⟩) threeL) → Calls Try.prog 19 #[.agg #[.int .i64 3, .slice (some ⟨ga, 0, none⟩) 3 3], .agg #[.int .i64 3, .slice (some ⟨gb, 0, none⟩) 3 3]] W fun e w' => e = .returned (.bool true) ∧ Hid (Below wa.heap.size wa w') ∧ Hid (Below W.heap.size W w')) := fun W ga gb hW hR hR' =>
    (cnfEqual_is (n := 3) (k := 3) (xs := threeL) (ys := threeL) (i := 3) (j := 3) rfl rfl ex_e _ _ _ _ W (by unfold maxLen; omega) threeL_all hR.out hR'.out).mono fun e w' ⟨he, hb⟩ => ⟨he, hW.out.trans (hb.mono hW.out.size), hb⟩
  go_region_held3 (fun w' => w'.cell? ⟨w9.heap.size, 0, none⟩ = some (.int .i64 3) ∧ w'.cell? ⟨w9.heap.size, 1, none⟩ = some (.slice (some ⟨g3, 0, none⟩) 3 3) ∧ Hid (Below wa.heap.size wa w')) (first | exact HH.out _ HD | exact HH.out _ (by assumption))
    (first | (go_at_call 21; ((with_reducible refine (K21.out _ ?_).mono ?_)); (· assumption); rintro e w' ⟨g, rfl, hL, hb, hs⟩) | (go_at_call 19; ((with_reducible refine (K19t.out _ _ ?_ ?_).mono ?_)); (· assumption); (· assumption); rintro e w' ⟨rfl, hb, hs⟩) | (go_at_call 19; ((with_reducible refine (K19e.out _ _ _ ?_ ?_ ?_).mono ?_)); (· assumption); (· first | assumption | exact moveR (by assumption) (by assumption)); (· first | assumption | exact moveR (by assumption) (by assumption)); rintro e w' ⟨rfl, hb, hs⟩))
  have HB10 := Lib.hid (HB9.out.trans (hb.out.mono HB9.out.size))
  clear HB9 HT9 HG9 HH HD K21 K19t K19e hb hs hza hgl hgb hw9 hn1 hn2 hL
  have hwz : w.heap.size ≤ w'.heap.size := HB10.out.size
  obtain ⟨Z, hZl, hZz⟩ : ∃ Z : List (List Int), Z.length = 1048577 ∧ ∀ z ∈ Z, z = [] := ⟨List.replicate 1048577 [], List.length_replicate, fun z hz => (List.mem_replicate.1 hz).2⟩
  obtain ⟨Y, hYl, hYz⟩ : ∃ Y : List (List Int), Y.length = 1048576 ∧ ∀ z ∈ Y, z = [] := ⟨List.replicate 1048576 [], List.length_replicate, fun z hz => (List.mem_replicate.1 hz).2⟩
  have HZC := Lib.hid (checkF_long (n := 0) (zss := Z) (by omega) (by omega))
  have HYC := Lib.hid (nil_check hYz (by omega))
  have HYN := Lib.hid (checkF_out (n := -1) (zss := Y) (.inl (by omega)))
  have HZ := Lib.hid hZl
  have HY := Lib.hid hYl
  have HZA := Lib.hid (nil_all hZz)
  have HYA := Lib.hid (nil_all hYz)
  have HZZ := Lib.hid hZz
  have HYZ := Lib.hid hYz
  clear hZl hZz hYl hYz
  go_wp2_with (at_make; refine wpList_make_full _ rfl _ _ 22 rfl w.heap.size 36 j0 (.slice none 0 0) 1 Try.underlying22 hj hy0 hy1 .i64 .i64 _ _ 1048577 rfl rfl rfl rfl (by rw [hy2]; omega) (by unfold maxLen; omega) hwz ?_; intro w11 hown0 hgrow0)
  have hB11 := HB10.out.grown hgrow0 hwz (fun k hk => by cases hk)
  have HR1 := Lib.hid ((nil_rows hown0 (off := 0) (Z := Z) (by rw [HZ.out]; omega) HZZ.out).alloc (.cells #[.int .i64 0, .slice (some ⟨w'.heap.size, 0, none⟩) 1048577 1048577] 24))
  have HR2 := Lib.hid (nil_rows hown0 (off := 1) (Z := Y) (by rw [HY.out]; omega) HYZ.out)
  have HT := Lib.hid (Two.new w11 (.int .i64 0) (.slice (some ⟨w'.heap.size, 0, none⟩) 1048577 1048577))
  have HB11 := Lib.hid (hB11.alloc hB11.size (.cells #[.int .i64 0, .slice (some ⟨w'.heap.size, 0, none⟩) 1048577 1048577] 24))
  have hw11 : w.heap.size ≤ w11.heap.size := hB11.size
  clear hown0 hgrow0 hB11 HB10
  go_wp2_with fail
  refine (checkF_is HZ.out HZC.out _ _ _ (by unfold maxLen; omega) HZA.out HR1.out).mono ?_
  rintro e w12 ⟨rfl, hB⟩
  have hT := HT.out.below hB HT.out.lt
  have c0 := hT.c0
  have c1 := hT.c1
  have f1 := hT.free 1
  have hT2 := hT.set1 (.slice (some ⟨w'.heap.size, 1, none⟩) 1048576 1048576)
  have HT2 := Lib.hid hT2
  have HR3 : Hid (RowsR .i64 (w12.setCell ⟨w11.heap.size, 1, none⟩ (.slice (some ⟨w'.heap.size, 1, none⟩) 1048576 1048576)) (some ⟨w'.heap.size, 1, none⟩) Y) :=
    HR2.out.below (((boxed w11 (.cells #[.int .i64 0, .slice (some ⟨w'.heap.size, 0, none⟩) 1048577 1048577] 24)).trans (hB.mono (by simp))).setCell (p := ⟨w11.heap.size, 1, none⟩) (Nat.le_refl _) _)
  have HB12 := Lib.hid ((HB11.out.trans (hB.mono HB11.out.size)).setCell (p := ⟨w11.heap.size, 1, none⟩) hw11 (.slice (some ⟨w'.heap.size, 1, none⟩) 1048576 1048576))
  clear hB hT hT2 HR1 HR2 HT HB11
  have d0 := HT2.out.c0
  have d1 := HT2.out.c1
  have hs12 : w11.heap.size < (w12.setCell ⟨w11.heap.size, 1, none⟩ (.slice (some ⟨w'.heap.size, 1, none⟩) 1048576 1048576)).heap.size := HT2.out.lt
  go_wp2_with fail
  refine (checkF_is HY.out HYC.out _ _ _ (by unfold maxLen; omega) HYA.out HR3.out).mono ?_
  rintro e w13 ⟨rfl, hB⟩
  have HT3 := Lib.hid (HT2.out.below hB hs12)
  have HR4 := Lib.hid (HR3.out.below hB)
  have HB13 := Lib.hid (HB12.out.trans (hB.mono HB12.out.size))
  have hs13 : w11.heap.size < w13.heap.size := HT3.out.lt
  clear hB c0 c1 f1 d0 d1 HT2 HR3 HB12 hs12
  go_wp2_with fail
  refine (checkF_is (zss := []) (l := 0) (n := 1048577) (r := 3) rfl (by decide +kernel) _ _ _ (by unfold maxLen; omega) (fun z hz => by cases hz) (.inl rfl)).mono ?_
  rintro e w14 ⟨rfl, hB⟩
  have hT4 := HT3.out.below hB hs13
  have c1 := hT4.c1
  have HR5 := Lib.hid (HR4.out.below hB)
  have HB14 := Lib.hid (HB13.out.trans (hB.mono HB13.out.size))
  clear hB hT4 HT3 HR4 HB13
  go_wp2_with fail
  refine (checkF_is HY.out HYN.out _ _ _ (by unfold maxLen; omega) HYA.out HR5.out).mono ?_
  rintro e w15 ⟨rfl, hB⟩
  have HB15 := Lib.hid (HB14.out.trans (hB.mono HB14.out.size))
  clear hB c1 HR5 HB14
  go_wp2_with fail
  refine (known_any _).mono ?_
  rintro e w16 ⟨rfl, hB⟩
  have HB16 := Lib.hid (HB15.out.trans (hB.mono HB15.out.size))
  clear hB
  go_wp2
  go_ret
  exact ⟨rfl, HB16.out⟩
end Go.Proofs.Ytnkemkgepipjcaa
