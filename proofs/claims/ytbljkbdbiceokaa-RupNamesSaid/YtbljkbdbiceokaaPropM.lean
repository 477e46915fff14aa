/-
  newPropagation.
-/
import Derived.Test.YtbljkbdbiceokaaPropL
import Derived.Carry
import Derived.Deep.CutRange
namespace Go.Proofs.Ytbljkbdbiceokaa
open Go.RowKit Go.Lib
open Go.RowKit (Below)

theorem made_int (n : Nat) : ∀ w : World, n ≤ 1000001 → (Instr.makeSlice 23 (.int .i64 n) (.int .i64 n)).run Try.prog w = .ok (.slice (some ⟨w.heap.size, 0, none⟩) n n) (w.alloc (.cells (madeCells #[.int .i64 0] n) 3)) := by
  intro w hn
  obtain ⟨i0, hi, hz0, hz1, hz2⟩ := info_parts Try.info3
  have h := run_make (P := Try.prog) w 23 3 i0 (.int .i64 0) Try.underlying23 hi hz0 .i64 .i64 n n (by omega) (by omega) (by rw [hz2]; omega) (by omega)
  rw [hz1] at h
  simp only [Int.toNat_natCast, Nat.mul_one] at h
  exact h
theorem made_cls (n : Nat) : ∀ w : World, n ≤ 1048576 → (Instr.makeSlice 96 (.int .i64 0) (.int .i64 n)).run Try.prog w = .ok (.slice (some ⟨w.heap.size, 0, none⟩) 0 n) (w.alloc (.cells (madeCells #[.int .i64 0, .int .i64 0, .slice none 0 0] (n * 3)) 113)) := by
  intro w hn
  obtain ⟨i0, hi, hz0, hz1, hz2⟩ := info_parts Try.infoCl
  have h := run_make (P := Try.prog) w 96 113 i0 _ Try.underlying96 hi hz0 .i64 .i64 0 n (by omega) (by omega) (by rw [hz2]; omega) (by omega)
  rw [hz1] at h
  simp only [Int.toNat_natCast] at h
  exact h
theorem made_chan (n : Nat) : ∀ w : World, n ≤ 1000000 → (Instr.makeChan 94 (.int .i64 (2 * n))).run Try.prog w = .ok (.chan (some w.heap.size)) (w.alloc (.chan (2 * n) #[] false 0 0 false)) := by
  intro w hn
  obtain ⟨i0, hi, hz0, hz1, hz2⟩ := info_parts Try.info3
  have h := Go.Conc.run_makeChan (P := Try.prog) (w := w) Try.underlying94 hi .i64 (2 * n) (by omega) (by rw [hz2]; omega)
  simpa using h

theorem belowAlloc {a w : World} (h : Below a.heap.size a w) (o : Obj) : Below a.heap.size a (w.alloc o) := h.alloc h.size o
theorem made_map (k : Int) (w : World) : (Instr.makeMap 95 (some (.int .i64 k))).run Try.prog w = .ok (.map (some w.heap.size)) (w.alloc (.map #[] 0)) := by
  simp [Instr.makeMap, run_underlying Try.underlying95, asInt, asIntOf]

theorem chOld {W : World} {b : Nat} {x : Obj} (o : Obj) (h : W.heap[b]? = some x) : (W.alloc o).heap[b]? = some x := (Below.heap_alloc W o b (Array.getElem?_eq_some_iff.1 h).1).trans h
theorem chNew {W : World} {b : Nat} {o : Obj} (hb : W.heap.size = b) : (W.alloc o).heap[b]? = some o := by subst hb; exact heap_alloc_new _ _
/-- A block that is new. -/
def At (wa W : World) (b : Nat) (o : Obj) : Prop := wa.heap.size ≤ b ∧ W.heap[b]? = some o
section
variable (wa : World) (o1 o2 o3 o4 o5 : Obj)
abbrev Ch : World := (((((wa.alloc o1).alloc o2).alloc o3).alloc o4).alloc o5).drew
theorem ch0 : At wa (Ch wa o1 o2 o3 o4 o5) (wa.heap.size) o1 := ⟨by omega, chOld _ (chOld _ (chOld _ (chOld _ (chNew (by simp)))))⟩
theorem ch1 : At wa (Ch wa o1 o2 o3 o4 o5) (wa.heap.size + 1) o2 := ⟨by omega, chOld _ (chOld _ (chOld _ (chNew (by simp))))⟩
theorem ch2 : At wa (Ch wa o1 o2 o3 o4 o5) (wa.heap.size + 1 + 1) o3 := ⟨by omega, chOld _ (chOld _ (chNew (by simp)))⟩
theorem ch3 : At wa (Ch wa o1 o2 o3 o4 o5) (wa.heap.size + 1 + 1 + 1) o4 := ⟨by omega, chOld _ (chNew (by simp))⟩
theorem ch4 : At wa (Ch wa o1 o2 o3 o4 o5) (wa.heap.size + 1 + 1 + 1 + 1) o5 := ⟨by omega, chNew (by simp)⟩
theorem chB : Below wa.heap.size wa (Ch wa o1 o2 o3 o4 o5) := (belowAlloc (belowAlloc (belowAlloc (belowAlloc (belowAlloc (Below.refl _ _) _) _) _) _) _).drew
end
theorem MapIs.fresh {W : World} {b : Nat} (h : W.heap[b]? = some (.map #[] 0)) (z : Value) : MapIs Try.prog W b 0 z fun _ => z := by
  obtain ⟨es, clock, h1, h2⟩ := World.ownsMap_made (H := Value) W Try.prog 3 anyElem
  rw [heap_alloc_new] at h1
  cases h1
  exact ⟨_, ⟨#[], 0, h, h2⟩, fun x _ => by simp [DataW.atKey]⟩
/-- What newPropagation makes. -/
def Made (B n : Nat) (pb : Nat) (W : World) : Prop := ∃ m f cv vs, m.pb = pb ∧ m.n = n ∧ m.T = 0 ∧ PR B m f cv 0 0 0 vs ⟨List.replicate (n + 1) 0, [], fun _ => [], []⟩ W
theorem made_of {wa W : World} {n n1 L kb qb mb cb pb : Nat} (hn1 : n + 1 = n1) (hL : L ≤ 1048576) (hk : At wa W kb (.cells (madeCells #[.int .i64 0] n1) 3)) (hq : At wa W qb (.chan (2 * n) #[] false 0 0 false)) (hm : At wa W mb (.map #[] 0))
    (hc : At wa W cb (.cells (madeCells #[.int .i64 0, .int .i64 0, .slice none 0 0] (L * 3)) 113)) (hp : At wa W pb (.cells #[.slice (some ⟨kb, 0, none⟩) n1 n1, .chan (some qb), .map (some mb), .slice (some ⟨cb, 0, none⟩) 0 L] 98)) : Made wa.heap.size n pb W := by
  subst hn1
  obtain ⟨gk, hk⟩ := hk
  obtain ⟨gq, hq⟩ := hq
  obtain ⟨gm, hm⟩ := hm
  obtain ⟨gc, hc⟩ := hc
  obtain ⟨gp, hp⟩ := hp
  have ne : ∀ {b b' : Nat} {o o' : Obj}, W.heap[b]? = some o → W.heap[b']? = some o' → o ≠ o' → b ≠ b' := fun h1 h2 hne e => hne (by rw [e, h2] at h1; exact (Option.some.inj h1).symm)
  refine ⟨⟨pb, kb, qb, mb, n, 0⟩, fun _ => nilS, .slice (some ⟨cb, 0, none⟩) 0 L, [], rfl, rfl, rfl, gp, gk, gq, gm, ne hp hk (by simp), ne hp hq (by simp), ne hp hm (by simp), ne hk hq (by simp), ne hk hm (by simp), ne hq hm (by simp),
    hp, ?_, by simp, by simpa using hq, ?_, by simp [potC], by simp, fun l => World.ownsRow_nil _ _ _ _, (fun l l' g hl => by cases hl), (fun l g hl => by cases hl), ?_, (fun j e he => by simp at he), (fun g hg => ?_)⟩
  · show W.heap[kb]? = _
    rw [hk]
    congr 2
    rw [← Array.toList_inj, toList_madeCells_one, List.toList_toArray, List.map_replicate]
  · exact MapIs.fresh hm nilS
  · exact ⟨rfl, .inr ⟨cb, L, _, rfl, gc, hc, Nat.zero_le _, by have : maxLen = 9223372036854775807 := rfl; omega, size_madeCells _ _, by simp⟩⟩
  · cases hg
    exact ⟨ne hc hp (by simp), ne hc hk (by simp), ne hc hq (by simp), ne hc hm (by simp)⟩

set_option maxHeartbeats 4000000 in
theorem newP_any {n : Nat} {zss : List (List Int)} (hn : n ≤ 1000000) (hm : zss.length ≤ 1048576) (a : Option Addr) (c : Nat) (w : World) :
    Calls Try.prog 45 #[.agg #[.int .i64 n, .slice a zss.length c]] w fun e w' => ∃ m f cv vs, e = .returned (.pointer (some ⟨m.pb, 0, none⟩)) ∧ m.n = n ∧ m.T = 0 ∧ PR (w.heap.size + 1) m f cv 0 0 0 vs ⟨List.replicate (n + 1) 0, [], fun _ => [], []⟩ w' ∧ Below (w.heap.size + 1) (w.alloc (.cells #[.int .i64 n, .slice a zss.length c] 26)) w' := by
  have h0 := Lib.hid (box0 w (.int .i64 n) (.slice a zss.length c) 26)
  have h1 := Lib.hid (box1 w (.int .i64 n) (.slice a zss.length c) 26)
  obtain ⟨n1, hn1⟩ : ∃ n1, n + 1 = n1 := ⟨_, rfl⟩
  have hk1 := fun W => made_int n1 W (by omega)
  have hk2 := fun W => made_chan n W hn
  have hk3 := fun W => made_cls zss.length W hm
  have hk4 := made_map
  have hnI : (n : Int) ≤ 1000000 := by omega
  have hmI : (zss.length : Int) ≤ 1048576 := by omega
  have hw1 : IntKind.i64.wrap (↑n + 1) = (n1 : Int) := by rw [← hn1]; exact IntWalk.i64_in _ (by omega)
  have HN1 := Lib.hid hn1
  clear hn1
  have hw2 : IntKind.i64.wrap (2 * ↑n) = 2 * (n : Int) := IntWalk.i64_in _ (by omega)
  go_enter Try.func45, Try.ntmps45
  go_wp2
  generalize hwa : (w.alloc (.cells #[.int .i64 n, .slice a zss.length c] 26)) = wa at h0 h1 ⊢
  have hws : wa.heap.size = w.heap.size + 1 := by rw [← hwa]; simp
  have HH : Hid (∀ w', Below wa.heap.size wa w' → w'.cell? ⟨w.heap.size, 0, none⟩ = some (.int .i64 n) ∧ w'.cell? ⟨w.heap.size, 1, none⟩ = some (.slice a zss.length c)) := fun w' hb =>
    ⟨by rw [hb.cell (p := ⟨w.heap.size, 0, none⟩) (by rw [hws]; exact Nat.lt_succ_self _)]; exact h0.out, by rw [hb.cell (p := ⟨w.heap.size, 1, none⟩) (by rw [hws]; exact Nat.lt_succ_self _)]; exact h1.out⟩
  have HFIN : Hid (∀ (pb : Nat) (W : World), Made wa.heap.size n pb W → Below wa.heap.size wa W → (∃ m f cv vs, Ending.returned (.pointer (some ⟨pb, 0, none⟩)) = .returned (.pointer (some ⟨m.pb, 0, none⟩)) ∧ m.n = n ∧ m.T = 0 ∧ PR (w.heap.size + 1) m f cv 0 0 0 vs ⟨List.replicate (n + 1) 0, [], fun _ => [], []⟩ W ∧ Below (w.heap.size + 1) wa W)) := fun pb W ⟨m, f, cv, vs, h1, h2, h3, h4⟩ hb =>
    ⟨m, f, cv, vs, by rw [h1], h2, h3, by rw [← hws]; exact h4, by rw [← hws]; exact hb⟩
  have HM := Lib.hid hm
  have HWS := Lib.hid hws
  have HWA := Lib.hid hwa
  clear hws hwa
  clear h0 h1 hnI hmI hn hm
  go_cut [2] from 3 to 24 (fun s2 wc => ∃ pb, s2 = .pointer (some ⟨pb, 0, none⟩) ∧ Hid (Made wa.heap.size n pb wc) ∧ Hid (Below wa.heap.size wa wc))
  case first =>
    go_region_held3 (fun w' => w'.cell? ⟨w.heap.size, 0, none⟩ = some (.int .i64 n) ∧ w'.cell? ⟨w.heap.size, 1, none⟩ = some (.slice a zss.length c)) ((refine HH.out _ ?_; (repeat (first | exact Below.refl _ _ | refine Below.drew ?_ | refine belowAlloc ?_ _)))) (fail)
    all_goals (go_step; go_step; go_meet; refine ⟨_, rfl, made_of HN1.out HM.out ?_ ?_ ?_ ?_ (ch4 _ _ _ _ _ _), chB _ _ _ _ _ _⟩ <;> first | exact ch0 _ _ _ _ _ _ | exact ch1 _ _ _ _ _ _ | exact ch2 _ _ _ _ _ _ | exact ch3 _ _ _ _ _ _)
  case rest =>
    obtain ⟨pb, rfl, HMD, HBL⟩ := hcut
    go_wp2
    go_ret
    have h := HFIN.out _ _ HMD.out HBL.out
    rw [← HWA.out] at h
    exact h
end Go.Proofs.Ytbljkbdbiceokaa
