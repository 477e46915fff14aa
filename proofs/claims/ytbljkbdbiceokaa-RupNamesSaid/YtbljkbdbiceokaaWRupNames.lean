/-
  RupNames: the examples of the chapter.
-/
import Derived.Test.YtbljkbdbiceokaaRupT
import Derived.Deep.RegionHeld3
import Derived.Deep.DrawnRows
import Derived.Deep.CutRange
namespace Go.Proofs.Ytbljkbdbiceokaa
open Go.RowKit Go.Lib
open Go.RowKit (Below)

def L3 : List (List Int) := [[1, 2], [1, -2], [-1, 2]]
theorem q1 : Fails fourL (negs [1]) := fails5 (l := [-1, 2, 1]) 1 (by decide) (by decide) (by decide)
theorem q2 : ¬ Fails fourL (negs []) := (follows_dec (n := 2) (F := fourL) (A := []) (u := []) (k := [0, 0, 0]) (by decide) (by decide) (by decide) (by decide) (by simp) rfl rfl (by decide) (by decide)).1
theorem q3 : ¬ Fails L3 (negs [-1]) := (follows_dec (n := 2) (F := L3) (A := [1]) (u := [1, 2]) (k := [0, 1, 2]) (by decide) (by decide) (by decide) (by decide) (chk5_sound (pre := []) (by simp) (by decide)) rfl rfl (by decide) (by decide)).1
theorem q4 : Fails L3 (negs [1, -1]) := fails_taut L3 (x := 1) (by simp) (by simp)
theorem q5 : Fails L3 (negs [2]) := fails5 (l := [-2, 1, -1]) 1 (by decide) (by decide) (by decide)
theorem q6 : Fails L3 (negs [1]) := fails5 (l := [-1, 2, -2]) 2 (by decide) (by decide) (by decide)
theorem q7 : ¬ Fails (L3 ++ [[1]]) (negs []) := (follows_dec (n := 2) (F := L3 ++ [[1]]) (A := []) (u := [1, 2]) (k := [0, 1, 2]) (by decide) (by decide) (by decide) (by decide) (chk5_sound (pre := []) (by simp) (by decide)) rfl rfl (by decide) (by decide)).1
theorem ka {v : Int} (h : ChkV fourL [[]] v) : v = 0 := h.same (.inl ⟨0, rfl, by decide, fun h => q2 (by have := h [] rfl; rwa [List.take_zero, List.append_nil] at this), fun j hj => absurd hj (Nat.not_lt_zero _)⟩)
theorem kb {v : Int} (h : ChkV fourL [[1]] v) : v = 1 := h.same (.inr ⟨fun j hj z hz => by
  obtain rfl : j = 0 := by simp at hj; omega
  cases hz
  rw [List.take_zero, List.append_nil]; exact q1, rfl⟩)
theorem kc {v : Int} (h : ChkV fourL [] v) : v = 0 := h.same (.inr ⟨fun j hj => by simp at hj, rfl⟩)
theorem kd {v : Int} (h : ChkV L3 [[1], []] v) : v = 1 := h.same (.inl ⟨1, rfl, by decide, fun h => q7 (h [] rfl), fun j hj z hz => by
  obtain rfl : j = 0 := by omega
  cases hz
  rw [List.take_zero, List.append_nil]; exact q6⟩)
theorem d1 : dv ((2 : Nat) : Int) fourL [[3]] = 3 := by decide +kernel
theorem d2 : dv ((2 : Nat) : Int) fourL [[0]] = 3 := by decide +kernel
theorem d3 : dv ((2 : Nat) : Int) fourL [[-2], [], [0]] = 3 := by decide +kernel
theorem L3_small : L3.length ≤ 1000000 ∧ (∀ z ∈ L3, z.length ≤ 4096) ∧ ∀ z ∈ L3, InV 2 z := by unfold InV; decide
theorem fourL_rng : ∀ z ∈ fourL, ∀ x ∈ z, Rng x := fun z hz => (four_small.2.2 z hz).rng (by decide)
theorem fourL_all : AllLen fourL := fun z hz => by have := four_small.2.1 z hz; have : maxLen = 9223372036854775807 := rfl; omega

def Y1 (w : World) : World := (((w.alloc (.cells #[.int .i64 1] 3)).alloc (.cells #[.int .i64 (-1)] 3)).alloc (.cells #[.int .i64 1, .int .i64 (-1)] 3)).alloc (.cells #[.int .i64 2] 3)
def Y2 (w : World) : World := (Y1 w).alloc (.cells #[.slice (some ⟨w.heap.size, 0, none⟩) 1 1, .slice none 0 0, .slice (some ⟨w.heap.size + 1, 0, none⟩) 1 1, .slice (some ⟨w.heap.size + 1 + 1, 0, none⟩) 2 2, .slice (some ⟨w.heap.size + 1 + 1 + 1, 0, none⟩) 1 1] 23)
def Y3 (w : World) : World := (Y2 w).alloc (.cells #[.bool true, .bool false, .bool false, .bool true, .bool true] 4)
theorem Y1_size (w : World) : (Y1 w).heap.size = w.heap.size + 4 := by simp [Y1]
theorem Y2_size (w : World) : (Y2 w).heap.size = w.heap.size + 5 := by simp [Y2, Y1_size]
theorem Y3_below (w : World) : Below w.heap.size w (Y3 w) := by
  unfold Y3 Y2 Y1
  exact (((((Below.refl _ _).alloc (Nat.le_refl _) _).alloc (by simp) _).alloc (by simp; omega) _).alloc (by simp; omega) _ |>.alloc (by simp; omega) _).alloc (by simp; omega) _
def csL : List (List Int) := [[1], [], [-1], [1, -1], [2]]
theorem Y3_rows (w : World) : RowsR .i64 (Y3 w) (some ⟨w.heap.size + 1 + 1 + 1 + 1, 0, none⟩) csL := by
  have k1 : KI .i64 (Y1 w) (some ⟨w.heap.size, 0, none⟩) [1] := by
    unfold Y1; exact (((KI.of (IntsR.lit _ _ _ _ (by simp) rfl)).alloc _).alloc _).alloc _
  have k2 : KI .i64 (Y1 w) (some ⟨w.heap.size + 1, 0, none⟩) [-1] := by
    unfold Y1; exact ((KI.of (IntsR.lit _ _ _ _ (by simp) rfl)).alloc _).alloc _
  have k3 : KI .i64 (Y1 w) (some ⟨w.heap.size + 1 + 1, 0, none⟩) [1, -1] := by
    unfold Y1; exact (KI.of (IntsR.lit _ _ _ _ (by simp) rfl)).alloc _
  have k4 : KI .i64 (Y1 w) (some ⟨w.heap.size + 1 + 1 + 1, 0, none⟩) [2] := by
    unfold Y1; exact KI.of (IntsR.lit _ _ _ _ (by simp) rfl)
  unfold Y3
  refine RowsR.alloc ?_ _
  unfold Y2
  refine .inr ⟨w.heap.size + 1 + 1 + 1 + 1, 0, rfl, by simp [Y1_size], fun j hj => ?_⟩
  rw [World.cell?_alloc_at _ _ _ _ (by rw [Y1_size])]
  match j, hj with
  | 0, _ => exact ⟨_, 1, rfl, k1.alloc _, by decide, by decide⟩
  | 1, _ => exact ⟨none, 0, rfl, KI.of (.inl rfl), by decide, by decide⟩
  | 2, _ => exact ⟨_, 1, rfl, k2.alloc _, by decide, by decide⟩
  | 3, _ => exact ⟨_, 2, rfl, k3.alloc _, by decide, by decide⟩
  | 4, _ => exact ⟨_, 1, rfl, k4.alloc _, by decide, by decide⟩
  | n + 5, hj => have h : n + 5 < 5 := hj; omega

theorem rowsThree {w : World} {a b : Option Addr} {c d : Nat} {y z : List Int} (hy : IntsR w a y) (hz : IntsR w b z) (h1 : y.length ≤ c) (h2 : c ≤ maxLen) (h3 : z.length ≤ d) (h4 : d ≤ maxLen) (T : TypeId) : RowsR .i64 (w.alloc (.cells #[.slice a y.length c, .slice none 0 0, .slice b z.length d] T)) (some ⟨w.heap.size, 0, none⟩) [y, [], z] := by
  refine .inr ⟨w.heap.size, 0, rfl, by simp, fun j hj => ?_⟩
  match j, hj with
  | 0, _ => exact ⟨a, c, World.cell?_alloc_at _ _ _ _ rfl, KI.of (hy.alloc _), h1, h2⟩
  | 1, _ => exact ⟨none, 0, World.cell?_alloc_at _ _ _ _ rfl, KI.of (.inl rfl), Nat.le_refl 0, Nat.zero_le _⟩
  | 2, _ => exact ⟨b, d, World.cell?_alloc_at _ _ _ _ rfl, KI.of (hz.alloc _), h3, h4⟩
  | n + 3, hj => have h : n + 3 < 3 := hj; omega
/-- One round's question. -/
structure Ask (W : World) (gb cb bb q : Nat) (g k : Nat) (L : List (List Int)) (z : List Int) (aj : Option Addr) (cj : Nat) (bq : Bool) : Prop where
  c0 : W.cell? ⟨gb, q * 2, none⟩ = some (.int .i64 2)
  c1 : W.cell? ⟨gb, q * 2 + 1, none⟩ = some (.slice (some ⟨g, 0, none⟩) k 4)
  cz : W.cell? ⟨cb, q, none⟩ = some (.slice aj z.length cj)
  cw : W.cell? ⟨bb, q, none⟩ = some (.bool bq)
  len : L.length = k
  rows : RowsR .i64 W (some ⟨g, 0, none⟩) L
  ints : IntsR W aj z
  room : z.length ≤ cj ∧ cj ≤ maxLen
  small : L.length ≤ 1000000 ∧ (∀ z ∈ L, z.length ≤ 4096) ∧ ∀ z ∈ L, InV 2 z
  zin : z.length ≤ 4096 ∧ InV 2 z
  ans : bq = true ↔ Fails L (negs z)
theorem asks {w : World} {gb g1 g2 g3 : Nat} (hb : w.heap[gb]? = some (.cells #[.int .i64 2, .slice (some ⟨g1, 0, none⟩) 4 4, .int .i64 2, .slice (some ⟨g2, 0, none⟩) 4 4, .int .i64 2, .slice (some ⟨g3, 0, none⟩) 3 4, .int .i64 2, .slice (some ⟨g3, 0, none⟩) 3 4, .int .i64 2, .slice (some ⟨g3, 0, none⟩) 3 4] 26 (0, 0)))
    (h1 : RowsR .i64 w (some ⟨g1, 0, none⟩) fourL) (h2 : RowsR .i64 w (some ⟨g2, 0, none⟩) fourL) (h3 : RowsR .i64 w (some ⟨g3, 0, none⟩) L3) (q : Nat) (hq : q < 5) :
    ∃ g k L z aj cj bq, Ask (Y3 w) gb (w.heap.size + 1 + 1 + 1 + 1) (w.heap.size + 1 + 1 + 1 + 1 + 1) q g k L z aj cj bq := by
  have hB := Y3_below w
  have hgb : gb < w.heap.size := (Array.getElem?_eq_some_iff.1 hb).1
  have hb' : (Y3 w).heap[gb]? = _ := (hB.block gb hgb).trans hb
  have hc : ∀ i, (Y3 w).cell? ⟨w.heap.size + 1 + 1 + 1 + 1 + 1, i, none⟩ = (#[Value.bool true, .bool false, .bool false, .bool true, .bool true] : Array Value)[i]? := fun i => by
    unfold Y3; rw [World.cell?_alloc_at _ _ _ _ (by rw [Y2_size])]
  obtain ⟨aj, cj, r1, r2, r3, r4⟩ : ∃ aj cj, (Y3 w).cell? ⟨w.heap.size + 1 + 1 + 1 + 1, q, none⟩ = some (.slice aj (csL.getD q []).length cj) ∧ KI .i64 (Y3 w) aj (csL.getD q []) ∧ (csL.getD q []).length ≤ cj ∧ cj ≤ maxLen := by
    rcases Y3_rows w with h | ⟨b, off, he, _, h⟩
    · cases h
    · cases he
      have := h q hq
      rwa [Nat.zero_add] at this
  match q, hq with
  | 0, _ => exact ⟨g1, 4, fourL, [1], aj, cj, true, by simp [World.cell?, hb'], by simp [World.cell?, hb'], r1, (hc 0).trans rfl, rfl, h1.below hB, r2.ints, ⟨r3, r4⟩, four_small, ⟨by decide, by unfold InV; decide⟩, ⟨fun _ => q1, fun _ => rfl⟩⟩
  | 1, _ => exact ⟨g2, 4, fourL, [], aj, cj, false, by simp [World.cell?, hb'], by simp [World.cell?, hb'], r1, (hc 1).trans rfl, rfl, h2.below hB, r2.ints, ⟨r3, r4⟩, four_small, ⟨by decide, by unfold InV; decide⟩, ⟨(fun h => by cases h), fun h => absurd h q2⟩⟩
  | 2, _ => exact ⟨g3, 3, L3, [-1], aj, cj, false, by simp [World.cell?, hb'], by simp [World.cell?, hb'], r1, (hc 2).trans rfl, rfl, h3.below hB, r2.ints, ⟨r3, r4⟩, L3_small, ⟨by decide, by unfold InV; decide⟩, ⟨(fun h => by cases h), fun h => absurd h q3⟩⟩
  | 3, _ => exact ⟨g3, 3, L3, [1, -1], aj, cj, true, by simp [World.cell?, hb'], by simp [World.cell?, hb'], r1, (hc 3).trans rfl, rfl, h3.below hB, r2.ints, ⟨r3, r4⟩, L3_small, ⟨by decide, by unfold InV; decide⟩, ⟨fun _ => q4, fun _ => rfl⟩⟩
  | 4, _ => exact ⟨g3, 3, L3, [2], aj, cj, true, by simp [World.cell?, hb'], by simp [World.cell?, hb'], r1, (hc 4).trans rfl, rfl, h3.below hB, r2.ints, ⟨r3, r4⟩, L3_small, ⟨by decide, by unfold InV; decide⟩, ⟨fun _ => q5, fun _ => rfl⟩⟩
  | n + 5, hq => exact absurd hq (by omega)

set_option maxRecDepth 100000 in
set_option maxHeartbeats 8000000 in
theorem rupNames_walk (w : World) : Calls Try.prog 6 #[] w fun e w' => e = .returned (.bool true) ∧ Below w.heap.size w w' := by
  have hmx : maxLen = 9223372036854775807 := rfl
  go_enter Try.func6, Try.ntmps6
  go_wp2_with fail
  refine (four_any _).mono ?_
  rintro e w1 ⟨g0, rfl, hG, hB1⟩
  have HB1 := Lib.hid hB1
  have HT0 := Two.new w1 (.int .i64 2) (.slice (some ⟨g0, 0, none⟩) 4 4)
  have e1 := HT0.c1
  have e2 := HT0.free 1
  have HT1 := Lib.hid (Two.new w1 (.int .i64 2) (.slice (some ⟨g0, 0, none⟩) 3 4))
  have HR2 : Hid (RowsR .i64 (w1.alloc (.cells #[.int .i64 2, .slice (some ⟨g0, 0, none⟩) 3 4] 26)) (some ⟨g0, 0, none⟩) L3) := (hG.rows.take 3).alloc _
  have HB2 := Lib.hid (HB1.out.trans ((boxed w1 (.cells #[.int .i64 2, .slice (some ⟨g0, 0, none⟩) 3 4] 26)).mono HB1.out.size))
  clear hG hB1 HT0
  go_wp2
  clear e1 e2
  have hgA : w1.heap.size < (w1.alloc (.cells #[.int .i64 2, .slice (some ⟨g0, 0, none⟩) 3 4] 26)).heap.size := by simp
  generalize w1.alloc (.cells #[.int .i64 2, .slice (some ⟨g0, 0, none⟩) 3 4] 26) = w2 at HT1 HR2 HB2 hgA ⊢
  have KF : Hid (∀ W, Hid (Below w2.heap.size w2 W) → Calls Try.prog 22 #[] W fun e w' => ∃ g, e = .returned (.agg #[.int .i64 2, .slice (some ⟨g, 0, none⟩) 4 4]) ∧ Hid (RowsR .i64 w' (some ⟨g, 0, none⟩) fourL) ∧ Hid (Below w2.heap.size w2 w') ∧ Hid (Below W.heap.size W w')) := fun W hW => by
    refine (four_any W).mono ?_
    rintro e w' ⟨g, rfl, hG, hb⟩
    exact ⟨g, rfl, hG.rows, hW.out.trans (hb.mono hW.out.size), hb⟩
  have HSS : Hid (∀ W, Hid (Below w2.heap.size w2 W) → W.cell? ⟨w1.heap.size, 0, none⟩ = some (.int .i64 2) ∧ W.cell? ⟨w1.heap.size, 1, none⟩ = some (.slice (some ⟨g0, 0, none⟩) 3 4) ∧ Hid (Below w2.heap.size w2 W)) := fun W hW => ⟨(HT1.out.below hW.out hgA).c0, (HT1.out.below hW.out hgA).c1, hW⟩
  have HD : Hid (Below w2.heap.size w2 w2.drew) := (Below.refl _ _).drew
  have HAL : Hid (∀ W o, Hid (Below w2.heap.size w2 W) → Hid (Below w2.heap.size w2 (W.alloc o))) := fun W o hW => hW.out.alloc hW.out.size o
  go_cut [2] from 27 to 32 (fun s2 wc => ∃ g1 g2 gb, s2 = .slice (some ⟨gb, 0, none⟩) 5 5 ∧ Hid (wc.heap[gb]? = some (.cells #[.int .i64 2, .slice (some ⟨g1, 0, none⟩) 4 4, .int .i64 2, .slice (some ⟨g2, 0, none⟩) 4 4, .int .i64 2, .slice (some ⟨g0, 0, none⟩) 3 4, .int .i64 2, .slice (some ⟨g0, 0, none⟩) 3 4, .int .i64 2, .slice (some ⟨g0, 0, none⟩) 3 4] 26 (0, 0))) ∧ Hid (RowsR .i64 wc (some ⟨g1, 0, none⟩) fourL) ∧ Hid (RowsR .i64 wc (some ⟨g2, 0, none⟩) fourL) ∧ Hid (Below w2.heap.size w2 wc))
  case first =>
    go_region_held3 (fun W => W.cell? ⟨w1.heap.size, 0, none⟩ = some (.int .i64 2) ∧ W.cell? ⟨w1.heap.size, 1, none⟩ = some (.slice (some ⟨g0, 0, none⟩) 3 4) ∧ Hid (Below w2.heap.size w2 W)) (first | exact HSS.out _ HD | exact HSS.out _ (by assumption) | exact HSS.out _ (HAL.out _ _ (by assumption)))
      ((go_at_call 22; first | (have hr0 := hr.out; refine (KF.out _ (by assumption)).mono ?_; rintro e w'' ⟨g2, rfl, hr2, hb2, hk2⟩; have hr1 := Lib.hid (hr0.below hk2.out)) | (refine (KF.out _ (by assumption)).mono ?_; rintro e w' ⟨g1, rfl, hr, hb, hk⟩)))
    all_goals (go_wp2_with fail; go_meet; exact ⟨_, _, _, rfl, heap_alloc_new _ _, hr1.out.alloc _, hr2.out.alloc _, hb2.out.alloc hb2.out.size _⟩)
  case rest =>
    obtain ⟨w3, rfl⟩ : ∃ w3 : World, w3 = wc := ⟨_, rfl⟩
    obtain ⟨g1, g2, gb, rfl, HGB, HG1, HG2, HB3⟩ := hcut
    have HB4 := Lib.hid (HB2.out.trans (HB3.out.mono HB2.out.size))
    have HAK : Hid (∀ q, q < 5 → _) := fun q hq => asks HGB.out HG1.out HG2.out (HR2.out.below HB3.out) q hq
    have HT3 := Lib.hid ((HT1.out.below HB3.out hgA).below (Y3_below w3) (HT1.out.below HB3.out hgA).lt)
    have HR3 := Lib.hid ((HR2.out.below HB3.out).below (Y3_below w3))
    have HB5 := Lib.hid (HB4.out.trans ((Y3_below w3).mono HB4.out.size))
    clear KF HSS HD HAL
    go_wp2
    obtain ⟨w6, hw6⟩ : ∃ w6, Y3 w3 = w6 := ⟨_, rfl⟩
    rw [hw6] at HT3 HR3 HB5
    have HAK6 : Hid (∀ q, q < 5 → ∃ g k L z aj cj bq, Ask w6 gb (w3.heap.size + 1 + 1 + 1 + 1) (w3.heap.size + 1 + 1 + 1 + 1 + 1) q g k L z aj cj bq) := fun q hq => by rw [← hw6]; exact HAK.out q hq
    have hs6 : w3.heap.size + 1 + 1 + 1 + 1 + 1 < w6.heap.size := by rw [← hw6]; unfold Y3; simp [Y2_size]
    have hgb6 : gb < w6.heap.size := by have := (Array.getElem?_eq_some_iff.1 HGB.out).1; omega
    unfold Y3 Y2 Y1 at hw6
    rw [hw6]
    clear hw6 HAK
    obtain ⟨cb, hcb⟩ : ∃ cb, w3.heap.size + 1 + 1 + 1 + 1 = cb := ⟨_, rfl⟩
    rw [hcb] at HAK6 hs6
    rw [hcb]
    have hg6 : w1.heap.size < w6.heap.size := HT3.out.lt
    go_loopw [5, 6, 7] (fun i _ _ wr => ∃ q : Nat, i = .int .i64 q ∧ q ≤ 5 ∧ Hid (Below w6.heap.size w6 wr)) (fun i _ _ _ => 5 - (intOf i).toNat)
    case atStart => exact ⟨0, rfl, by omega, Below.refl _ _⟩
    case round =>
      obtain ⟨q, rfl, hq, HW⟩ := hrel
      by_cases hlq : q < 5
      · obtain ⟨g, k, L, z, aj, cj, bq, hask⟩ := HAK6.out q hlq
        have HASK := Lib.hid hask
        have hlqI : (q : Int) < 5 := by omega
        have hq0 : (0 : Int) ≤ (q : Int) := by omega
        have HK : Hid (∀ W, Hid (Below w6.heap.size w6 W) → Calls Try.prog 14 #[.agg #[.int .i64 2, .slice (some ⟨g, 0, none⟩) k 4], .slice aj z.length cj] W fun e w' => e = .returned (.tuple #[.bool bq, .int .i64 0]) ∧ Hid (Below w6.heap.size w6 w')) := fun W hW => by
          have h := HASK.out
          refine (impliedOk (V := 2) (by decide) h.small.1 h.small.2.1 h.small.2.2 h.zin.1 h.zin.2 (h.rows.below hW.out) (h.ints.below hW.out) h.room.1 h.room.2 h.len rfl).mono ?_
          rintro e w' ⟨hb, v, rfl, hv⟩
          have : v = bq := by
            have h2 := hv.trans h.ans.symm
            cases v <;> cases bq <;> simp_all
          rw [this]
          exact ⟨rfl, hW.out.trans (hb.mono hW.out.size)⟩
        have HS6 : Hid (∀ W, Hid (Below w6.heap.size w6 W) → W.cell? ⟨gb, q * 2, none⟩ = some (.int .i64 2) ∧ W.cell? ⟨gb, q * 2 + 1, none⟩ = some (.slice (some ⟨g, 0, none⟩) k 4) ∧ W.cell? ⟨cb, q, none⟩ = some (.slice aj z.length cj) ∧ Hid (Below w6.heap.size w6 W)) := fun W hW => ⟨(hW.out.cell (p := ⟨gb, q * 2, none⟩) hgb6).trans HASK.out.c0, (hW.out.cell (p := ⟨gb, q * 2 + 1, none⟩) hgb6).trans HASK.out.c1, (hW.out.cell (p := ⟨cb, q, none⟩) (by show cb < _; omega)).trans HASK.out.cz, hW⟩
        have HD : Hid (Below w6.heap.size w6 wr.drew) := HW.out.drew
        obtain ⟨w7, rfl⟩ : ∃ w7 : World, w7 = wr := ⟨_, rfl⟩
        clear hask
        go_wp2
        go_cut [6, 7] from 46 to 56 (fun s6 s7 wc => s6 = .bool bq ∧ s7 = .int .i64 0 ∧ Hid (Below w6.heap.size w6 wc))
        case first =>
          go_region_held3 (fun W => W.cell? ⟨gb, q * 2, none⟩ = some (.int .i64 2) ∧ W.cell? ⟨gb, q * 2 + 1, none⟩ = some (.slice (some ⟨g, 0, none⟩) k 4) ∧ W.cell? ⟨cb, q, none⟩ = some (.slice aj z.length cj) ∧ Hid (Below w6.heap.size w6 W)) (first | exact HS6.out _ HD | exact HS6.out _ (by assumption))
            (((with_reducible refine (HK.out _ ?_).mono ?_); (· assumption); rintro e w' ⟨rfl, hb⟩))
          all_goals (go_wp2_with fail; go_meet; exact ⟨rfl, rfl, hb⟩)
        case rest =>
          obtain ⟨w8, rfl⟩ : ∃ w8 : World, w8 = wc := ⟨_, rfl⟩
          obtain ⟨rfl, rfl, HW8⟩ := hcut
          have hcw : w8.cell? ⟨cb + 1, q, none⟩ = some (.bool bq) := (HW8.out.cell (p := ⟨cb + 1, q, none⟩) hs6).trans HASK.out.cw
          have hbb : (bq == bq) = true := by simp
          clear HS6 HK HD
          go_wp2
          go_roundw
          case rel => exact ⟨q + 1, by go_num, by omega, HW8⟩
          case measure => simp [intOf]; omega
      · obtain ⟨w7, rfl⟩ : ∃ w7 : World, w7 = wr := ⟨_, rfl⟩
        have HB7 := Lib.hid (HB5.out.trans (HW.out.mono HB5.out.size))
        have HT7 := Lib.hid (HT3.out.below HW.out hg6)
        have HR7 := Lib.hid (HR3.out.below HW.out)
        have HC : Hid (∀ W, Hid (Below w7.heap.size w7 W) → Two W w1.heap.size (.int .i64 2) (.slice (some ⟨g0, 0, none⟩) 3 4) ∧ RowsR .i64 W (some ⟨g0, 0, none⟩) L3 ∧ Below w.heap.size w W) := fun W hW => ⟨HT7.out.below hW.out HT7.out.lt, HR7.out.below hW.out, HB7.out.trans (hW.out.mono HB7.out.size)⟩
        have HN0 : Hid (Below w7.heap.size w7 w7) := Below.refl _ _
        clear HAK6 HT3 HR3 HB5 HW HT7 HR7 HB7 HT1 HR2 HB2 HB1 HGB HG1 HG2 HB3 HB4
        go_wp2_with fail
        refine (four_any _).mono ?_
        rintro e wa1 ⟨ga1, rfl, hG, hB⟩
        have HA1 : Hid (Below w7.heap.size w7 wa1) := HN0.out.trans (hB.mono HN0.out.size)
        have HR1 := Lib.hid hG.rows
        clear hG hB
        have HQ1 : Hid (Below w7.heap.size w7 (wa1.alloc (.cells #[.slice none 0 0] 23))) := (HA1.out).alloc (by have := HA1.out.size; simp; try omega) (.cells #[.slice none 0 0] 23)
        have HS1 := Lib.hid ((HR1.out).alloc (.cells #[.slice none 0 0] 23))
        have HP1 : Hid (RowsR .i64 (wa1.alloc (.cells #[.slice none 0 0] 23)) (some ⟨wa1.heap.size, 0, none⟩) ([[]] : List (List Int))) := rowsOne (w := wa1) (a := none) (c := 0) (z := []) (.inl rfl) (by simp) (by omega) _
        go_wp2_with fail
        refine (checkOk (V := 2) (L := fourL) (P := [[]]) (l := 4) (k := 1) (zc := 1) (by decide) four_small.1 four_small.2.1 four_small.2.2 (by decide) (by decide) (by unfold InV; decide) HS1.out HP1.out (by decide) rfl rfl).mono ?_
        rintro e wb1 ⟨hB, v, rfl, hv⟩
        obtain rfl := ka hv
        have HN1 : Hid (Below w7.heap.size w7 wb1) := HQ1.out.trans (hB.mono HQ1.out.size)
        clear hB hv HP1 HQ1 HS1 HR1 HA1 HN0
        go_wp2_with fail
        refine (four_any _).mono ?_
        rintro e wa2 ⟨ga2, rfl, hG, hB⟩
        have HA2 : Hid (Below w7.heap.size w7 wa2) := HN1.out.trans (hB.mono HN1.out.size)
        have HR2 := Lib.hid hG.rows
        clear hG hB
        have HQ2 : Hid (Below w7.heap.size w7 ((wa2.alloc (.cells #[.int .i64 1] 3)).alloc (.cells #[.slice (some ⟨wa2.heap.size, 0, none⟩) 1 1] 23))) := ((HA2.out).alloc (by have := HA2.out.size; simp; try omega) (.cells #[.int .i64 1] 3)).alloc (by have := HA2.out.size; simp; try omega) (.cells #[.slice (some ⟨wa2.heap.size, 0, none⟩) 1 1] 23)
        have HS2 := Lib.hid (((HR2.out).alloc (.cells #[.int .i64 1] 3)).alloc (.cells #[.slice (some ⟨wa2.heap.size, 0, none⟩) 1 1] 23))
        have HP2 : Hid (RowsR .i64 ((wa2.alloc (.cells #[.int .i64 1] 3)).alloc (.cells #[.slice (some ⟨wa2.heap.size, 0, none⟩) 1 1] 23)) (some ⟨wa2.heap.size + 1, 0, none⟩) ([[1]] : List (List Int))) := by unfold Hid; simpa using rowsOne (w := (wa2.alloc (.cells #[.int .i64 1] 3))) (a := some ⟨wa2.heap.size, 0, none⟩) (c := 1) (z := [1]) (IntsR.lit _ _ _ _ rfl rfl) (by simp) (by omega) 23
        go_wp2_with fail
        refine (checkOk (V := 2) (L := fourL) (P := [[1]]) (l := 4) (k := 1) (zc := 1) (by decide) four_small.1 four_small.2.1 four_small.2.2 (by decide) (by decide) (by unfold InV; decide) HS2.out HP2.out (by decide) rfl rfl).mono ?_
        rintro e wb2 ⟨hB, v, rfl, hv⟩
        obtain rfl := kb hv
        have HN2 : Hid (Below w7.heap.size w7 wb2) := HQ2.out.trans (hB.mono HQ2.out.size)
        clear hB hv HP2 HQ2 HS2 HR2 HA2 HN1
        go_wp2_with fail
        refine (four_any _).mono ?_
        rintro e wa3 ⟨ga3, rfl, hG, hB⟩
        have HA3 : Hid (Below w7.heap.size w7 wa3) := HN2.out.trans (hB.mono HN2.out.size)
        have HR3 := Lib.hid hG.rows
        clear hG hB
        have HQ3 : Hid (Below w7.heap.size w7 wa3) := HA3.out
        have HS3 := Lib.hid (HR3.out)
        have HP3 : Hid (RowsR .i64 wa3 none ([] : List (List Int))) := .inl rfl
        go_wp2_with fail
        refine (checkOk (V := 2) (L := fourL) (P := []) (l := 4) (k := 0) (zc := 0) (by decide) four_small.1 four_small.2.1 four_small.2.2 (by decide) (by decide) (by unfold InV; decide) HS3.out HP3.out (by decide) rfl rfl).mono ?_
        rintro e wb3 ⟨hB, v, rfl, hv⟩
        obtain rfl := kc hv
        have HN3 : Hid (Below w7.heap.size w7 wb3) := HQ3.out.trans (hB.mono HQ3.out.size)
        clear hB hv HP3 HQ3 HS3 HR3 HA3 HN2
        obtain ⟨hT, hR, _⟩ := HC.out _ HN3
        have c0 := hT.c0
        have c1 := hT.c1
        have HR4 := Lib.hid hR
        clear hT hR
        have HQ4 : Hid (Below w7.heap.size w7 ((wb3.alloc (.cells #[.int .i64 1] 3)).alloc (.cells #[.slice (some ⟨wb3.heap.size, 0, none⟩) 1 1, .slice none 0 0] 23))) := ((HN3.out).alloc (by have := HN3.out.size; simp; try omega) (.cells #[.int .i64 1] 3)).alloc (by have := HN3.out.size; simp; try omega) (.cells #[.slice (some ⟨wb3.heap.size, 0, none⟩) 1 1, .slice none 0 0] 23)
        have HS4 := Lib.hid (((HR4.out).alloc (.cells #[.int .i64 1] 3)).alloc (.cells #[.slice (some ⟨wb3.heap.size, 0, none⟩) 1 1, .slice none 0 0] 23))
        have HP4 : Hid (RowsR .i64 ((wb3.alloc (.cells #[.int .i64 1] 3)).alloc (.cells #[.slice (some ⟨wb3.heap.size, 0, none⟩) 1 1, .slice none 0 0] 23)) (some ⟨wb3.heap.size + 1, 0, none⟩) ([[1], []] : List (List Int))) := by unfold Hid; simpa using rowsTwo (w := (wb3.alloc (.cells #[.int .i64 1] 3))) (a := some ⟨wb3.heap.size, 0, none⟩) (b := none) (c := 1) (d := 0) (y := [1]) (z := []) (IntsR.lit _ _ _ _ rfl rfl) (.inl rfl) (by simp) (by omega) (by simp) (by omega) 23
        go_wp2_with fail
        refine (checkOk (V := 2) (L := L3) (P := [[1], []]) (l := 3) (k := 2) (zc := 2) (by decide) L3_small.1 L3_small.2.1 L3_small.2.2 (by decide) (by decide) (by unfold InV; decide) HS4.out HP4.out (by decide) rfl rfl).mono ?_
        rintro e wb4 ⟨hB, v, rfl, hv⟩
        obtain rfl := kd hv
        have HN4 : Hid (Below w7.heap.size w7 wb4) := HQ4.out.trans (hB.mono HQ4.out.size)
        clear hB hv HP4 HQ4 HS4 HR4 c0 c1 HN3
        go_wp2_with fail
        refine (four_any _).mono ?_
        rintro e wa5 ⟨ga5, rfl, hG, hB⟩
        have HA5 : Hid (Below w7.heap.size w7 wa5) := HN4.out.trans (hB.mono HN4.out.size)
        have HR5 := Lib.hid hG.rows
        clear hG hB
        have HQ5 : Hid (Below w7.heap.size w7 ((wa5.alloc (.cells #[.int .i64 3] 3)).alloc (.cells #[.slice (some ⟨wa5.heap.size, 0, none⟩) 1 1] 23))) := ((HA5.out).alloc (by have := HA5.out.size; simp; try omega) (.cells #[.int .i64 3] 3)).alloc (by have := HA5.out.size; simp; try omega) (.cells #[.slice (some ⟨wa5.heap.size, 0, none⟩) 1 1] 23)
        have HS5 := Lib.hid (((HR5.out).alloc (.cells #[.int .i64 3] 3)).alloc (.cells #[.slice (some ⟨wa5.heap.size, 0, none⟩) 1 1] 23))
        have HP5 : Hid (RowsR .i64 ((wa5.alloc (.cells #[.int .i64 3] 3)).alloc (.cells #[.slice (some ⟨wa5.heap.size, 0, none⟩) 1 1] 23)) (some ⟨wa5.heap.size + 1, 0, none⟩) ([[3]] : List (List Int))) := by unfold Hid; simpa using rowsOne (w := (wa5.alloc (.cells #[.int .i64 3] 3))) (a := some ⟨wa5.heap.size, 0, none⟩) (c := 1) (z := [3]) (IntsR.lit _ _ _ _ rfl rfl) (by simp) (by omega) 23
        go_wp2_with fail
        refine (rupCheck_any (n := 2) (F := fourL) (P := [[3]]) _ 4 _ 1 _ (by decide) (by decide) fourL_all HS5.out fourL_rng (by decide) (by decide) (by intro z hz; have : maxLen = 9223372036854775807 := rfl; simp at hz; rcases hz with rfl <;> simp <;> omega) HP5.out (by intro z hz x hx; unfold Rng; simp at hz; rcases hz with rfl <;> simp at hx <;> omega)).mono ?_
        rintro e wb5 ⟨hB, v, r, rfl, hv⟩
        obtain rfl : r = 3 := by
          rcases hv with ⟨h, _⟩ | ⟨_, h, _⟩
          · rw [d1] at h; cases h
          · rw [h]; exact d1
        have HN5 : Hid (Below w7.heap.size w7 wb5) := HQ5.out.trans (hB.mono HQ5.out.size)
        clear hB hv HP5 HQ5 HS5 HR5 HA5 HN4
        go_wp2_with fail
        refine (four_any _).mono ?_
        rintro e wa6 ⟨ga6, rfl, hG, hB⟩
        have HA6 : Hid (Below w7.heap.size w7 wa6) := HN5.out.trans (hB.mono HN5.out.size)
        have HR6 := Lib.hid hG.rows
        clear hG hB
        have HQ6 : Hid (Below w7.heap.size w7 (wa6.alloc (.cells #[.int .i64 0] 3))) := (HA6.out).alloc (by have := HA6.out.size; simp; try omega) (.cells #[.int .i64 0] 3)
        have HS6 := Lib.hid ((HR6.out).alloc (.cells #[.int .i64 0] 3))
        have HX6 : Hid (IntsR (wa6.alloc (.cells #[.int .i64 0] 3)) (some ⟨wa6.heap.size, 0, none⟩) [0]) := IntsR.lit _ _ _ _ rfl rfl
        go_wp2_with fail
        refine (rupImplied_any (n := 2) (F := fourL) (z := [0]) _ 4 _ 1 _ (by decide) (by decide) fourL_all HS6.out fourL_rng (by decide) (by decide) HX6.out (by intro x hx; unfold Rng; simp at hx; omega)).mono ?_
        rintro e wb6 ⟨hB, v, r, rfl, hv⟩
        obtain rfl : r = 3 := by
          rcases hv with ⟨h, _⟩ | ⟨_, h, _⟩
          · rw [d2] at h; cases h
          · rw [h]; exact d2
        have HN6 : Hid (Below w7.heap.size w7 wb6) := HQ6.out.trans (hB.mono HQ6.out.size)
        clear hB hv HX6 HQ6 HS6 HR6 HA6 HN5
        go_wp2_with fail
        refine (four_any _).mono ?_
        rintro e wa7 ⟨ga7, rfl, hG, hB⟩
        have HA7 : Hid (Below w7.heap.size w7 wa7) := HN6.out.trans (hB.mono HN6.out.size)
        have HR7 := Lib.hid hG.rows
        clear hG hB
        have HQ7 : Hid (Below w7.heap.size w7 (((wa7.alloc (.cells #[.int .i64 (-2)] 3)).alloc (.cells #[.int .i64 0] 3)).alloc (.cells #[.slice (some ⟨wa7.heap.size, 0, none⟩) 1 1, .slice none 0 0, .slice (some ⟨wa7.heap.size + 1, 0, none⟩) 1 1] 23))) := (((HA7.out).alloc (by have := HA7.out.size; simp; try omega) (.cells #[.int .i64 (-2)] 3)).alloc (by have := HA7.out.size; simp; try omega) (.cells #[.int .i64 0] 3)).alloc (by have := HA7.out.size; simp; try omega) (.cells #[.slice (some ⟨wa7.heap.size, 0, none⟩) 1 1, .slice none 0 0, .slice (some ⟨wa7.heap.size + 1, 0, none⟩) 1 1] 23)
        have HS7 := Lib.hid ((((HR7.out).alloc (.cells #[.int .i64 (-2)] 3)).alloc (.cells #[.int .i64 0] 3)).alloc (.cells #[.slice (some ⟨wa7.heap.size, 0, none⟩) 1 1, .slice none 0 0, .slice (some ⟨wa7.heap.size + 1, 0, none⟩) 1 1] 23))
        have HP7 : Hid (RowsR .i64 (((wa7.alloc (.cells #[.int .i64 (-2)] 3)).alloc (.cells #[.int .i64 0] 3)).alloc (.cells #[.slice (some ⟨wa7.heap.size, 0, none⟩) 1 1, .slice none 0 0, .slice (some ⟨wa7.heap.size + 1, 0, none⟩) 1 1] 23)) (some ⟨wa7.heap.size + 1 + 1, 0, none⟩) ([[-2], [], [0]] : List (List Int))) := by unfold Hid; simpa using rowsThree (w := ((wa7.alloc (.cells #[.int .i64 (-2)] 3)).alloc (.cells #[.int .i64 0] 3))) (a := some ⟨wa7.heap.size, 0, none⟩) (b := some ⟨wa7.heap.size + 1, 0, none⟩) (c := 1) (d := 1) (y := [-2]) (z := [0]) ((IntsR.lit _ _ _ _ rfl rfl).alloc _) (IntsR.lit _ _ _ _ (by simp) rfl) (by simp) (by omega) (by simp) (by omega) 23
        go_wp2_with fail
        refine (rupCheck_any (n := 2) (F := fourL) (P := [[-2], [], [0]]) _ 4 _ 3 _ (by decide) (by decide) fourL_all HS7.out fourL_rng (by decide) (by decide) (by intro z hz; have : maxLen = 9223372036854775807 := rfl; simp at hz; rcases hz with rfl | rfl | rfl <;> simp <;> omega) HP7.out (by intro z hz x hx; unfold Rng; simp at hz; rcases hz with rfl | rfl | rfl <;> simp at hx <;> omega)).mono ?_
        rintro e wb7 ⟨hB, v, r, rfl, hv⟩
        obtain rfl : r = 3 := by
          rcases hv with ⟨h, _⟩ | ⟨_, h, _⟩
          · rw [d3] at h; cases h
          · rw [h]; exact d3
        have HN7 : Hid (Below w7.heap.size w7 wb7) := HQ7.out.trans (hB.mono HQ7.out.size)
        clear hB hv HP7 HQ7 HS7 HR7 HA7 HN6
        go_wp2_with fail
        refine (knownR_any _).mono ?_
        rintro e w9 ⟨rfl, hB9⟩
        obtain ⟨_, _, hBF⟩ := HC.out _ HN7
        have HB10 := Lib.hid (hBF.trans (hB9.mono hBF.size))
        clear hB9 hBF
        go_wp2
        go_ret
        exact ⟨rfl, HB10.out⟩
end Go.Proofs.Ytbljkbdbiceokaa
