/-
  'sorted': a copy of a list in the order of literals.
-/
import Derived.Test.YtnkemkgepipjcaaLitF
import Derived.Test.YtnkemkgepipjcaaShelf
import Derived.Lib.OwnBridge
import Derived.Sort.OwnSortedInts
namespace Go.Proofs.Ytnkemkgepipjcaa
open Go.RowKit Go.Lib Go.Sort Go.Shelf
open Go.RowKit (Below)

theorem ltL (x y : Int) : ltOf cfL x y = lessB x y := by
  unfold ltOf cfL
  by_cases h1 : lessB x y = true
  · rw [if_pos h1]; simp [h1]
  · rw [if_neg h1]
    have e1 : lessB x y = false := by simpa using h1
    rw [e1]
    by_cases h2 : lessB y x = true
    · rw [if_pos h2]; rfl
    · rw [if_neg h2]; rfl
theorem ltL' : ltOf cfL = lessB := funext fun x => funext fun y => ltL x y
theorem swoL : SWO (ltOf cfL) where
  irrefl x := by rw [ltL]; exact lessB_irrefl x
  trans x y z h1 h2 := by rw [ltL] at *; exact lessB_trans x y z h1 h2
  ntrans x y z h1 h2 := by
    rw [ltL] at *
    cases h : lessB x z
    · rfl
    · exfalso
      rw [lessB_iff] at h
      have a1 : ¬ lessB x y = true := by simp [h1]
      have a2 : ¬ lessB y z = true := by simp [h2]
      rw [lessB_iff] at a1 a2
      omega
theorem totL (x y : Int) (h1 : ltOf cfL x y = false) (h2 : ltOf cfL y x = false) : x = y := by
  rw [ltL] at *; exact lessB_total x y (by simp [h1]) (by simp [h2])

/-- The list in the order of literals. -/
def sortL (zs : List Int) : List Int := zs.mergeSort fun x y => !lessB y x
theorem sortL_length (zs : List Int) : (sortL zs).length = zs.length := by unfold sortL; simp
theorem sortL_nil : sortL [] = [] := by unfold sortL; simp


/-- The sort's contract at a slice that the call made itself, with the comparison bound to the cell g. -/
theorem sort_own (g : Nat) (W : World) (B : Nat) (v : Value) (zs : List Int) (hg : W.cell? ⟨g, 0, none⟩ = some (.func (.func 35) #[] #[])) (hgB : g < B)
    (hown : Own W B v zs) (hv : v ≠ .slice none 0 0) (hn : zs.length < 4611686018427387904) :
    Calls Try.prog 40 #[v, .func (.func 41) #[] #[.pointer (some ⟨g, 0, none⟩)]] W fun e w' => e = .returned (.tuple #[]) ∧ Own w' B v (sortL zs) ∧ Below B W w' := by
  obtain ⟨b, cap, rfl, hB, hb, hnc, hcm, _, hH⟩ := holds_of_ownsRow hown hv
  have hgs : g < W.heap.size := World.block_lt_of_cell? W _ hg
  have hcmp : CmpLays1 Try.prog 41 #[.pointer (some ⟨g, 0, none⟩)] (Value.int .i64) cfL b 0 zs.toArray.size W := by
    intro m os dk _ x y
    have hc : (sortWorld (Value.int .i64) W b 0 m dk os).cell? ⟨g, 0, none⟩ = some (.func (.func 35) #[] #[]) := by
      rw [← hg]
      exact World.cell?_of_block ((grownBy_sortedI (w := W) (g := b) (n := m) (os := os) dk).block g hgs (by intro h; injection h; omega))
    exact (closure_any x y g _ hc).mono fun e w' ⟨he, hw⟩ => ⟨he, 0, #[], by rw [grow_empty]; exact hw.symm⟩
  have eg : ∀ args w, (callFunc 41 args).run Try.prog w = .ok (.enter 41 args) w := enters_of Try.func41 (by kernel_rfl) rfl
  have hS := Try.slices_SortFunc_total (Value.int .i64) (fun _ => rfl) cfL swoL 41 #[.pointer (some ⟨g, 0, none⟩)] b 0 cap zs.toArray W eg hcmp hH hb (by simpa using hn) totL
  have hsz : zs.toArray.size = zs.length := by simp
  rw [hsz] at hS
  refine hS.mono ?_
  rintro e w' ⟨rfl, n, os, rfl⟩
  rw [ltL', show (zs.toArray.toList.mergeSort fun x y => !lessB y x) = sortL zs from rfl]
  refine ⟨rfl, ?_, ?_⟩
  · rcases hown.2 with ⟨e0, _⟩ | ⟨g', cap', cur, e0, hb', hg', hn', hm', hs', ht'⟩
    · cases e0
    · injection e0 with e1 _ e3
      injection e1 with e1
      injection e1 with e1
      subst e1; subst e3
      exact Own.of (ownsRow_sortedI (ss := zs) (sortL_length zs) hB hg' hn' hm' hs') (sortL_length zs).symm rfl
  · exact (Below.refl B W).grown (grownBy_sortedI _) (by omega) (fun k hk => by injection hk; omega)


theorem sort_any (g : Nat) (W : World) (B : Nat) (v : Value) (zs : List Int) (hg : W.cell? ⟨g, 0, none⟩ = some (.func (.func 35) #[] #[])) (hgB : g < B)
    (hown : Own W B v zs) (hn : zs.length < 4611686018427387904) :
    Calls Try.prog 40 #[v, .func (.func 41) #[] #[.pointer (some ⟨g, 0, none⟩)]] W fun e w' => e = .returned (.tuple #[]) ∧ Own w' B v (sortL zs) ∧ Below B W w' := by
  by_cases hv : v = .slice none 0 0
  · subst hv
    have h0 : zs = [] := by
      rcases hown.2 with ⟨_, h0⟩ | ⟨_, _, _, e0, _⟩
      · exact List.eq_nil_of_length_eq_zero h0
      · cases e0
    subst h0
    rw [sortL_nil]
    exact (Try.slices_SortFunc_none (α := Int) none 0 _ W).mono fun e w' ⟨he, hw⟩ => ⟨he, by subst hw; exact hown, by subst hw; exact Below.refl _ _⟩
  · exact sort_own g W B v zs hg hgB hown hv hn

theorem clone_any (c : Option Addr) (cc : Nat) (zs : List Int) (w : World) (hm : zs.length * 8 ≤ 140737488351232) (h : IntsR w c zs) :
    Calls Try.prog 39 #[.slice c zs.length cc] w fun e w' => ∃ v, e = .returned v ∧ Own w' w.heap.size v zs ∧ Below w.heap.size w w' := by
  rcases h with h0 | ⟨b, off, rfl, hb, hc⟩
  · have : zs = [] := List.eq_nil_of_length_eq_zero h0
    subst this
    cases c with
    | none => exact (Try.slices_Clone_int_nil 0 cc w).mono fun e w' ⟨he, hw⟩ => ⟨_, he, World.ownsRow_nil _ _ _ _, by subst hw; exact Below.refl _ _⟩
    | some a => exact (Try.slices_Clone_int_zero a cc w).mono fun e w' ⟨v, he, ho, _, hb⟩ => ⟨v, he, ho, hb⟩
  · exact (Try.slices_Clone_int b off zs.length cc zs w (Nat.le_refl _) (by omega) hc).mono fun e w' ⟨v, he, ho, _, hb⟩ => ⟨v, he, by rw [List.take_length] at ho; exact ho, hb⟩

set_option maxHeartbeats 400000 in
theorem sorted_any (c : Option Addr) (cc : Nat) (zs : List Int) (w : World) (hm : zs.length * 8 ≤ 140737488351232) (h : IntsR w c zs) :
    Calls Try.prog 34 #[.slice c zs.length cc, .func (.func 35) #[] #[]] w fun e w' => ∃ v, e = .returned v ∧ Own w' (w.heap.size + 1) v (sortL zs) ∧ Below w.heap.size w w' := by
  have hmf : ∀ (fn : Fn) (first cap : Array Value) (w : World), (Instr.makeFunc fn first cap).run Try.prog w = .ok (.func fn first cap) w := fun _ _ _ _ => rfl
  have b1 : Below w.heap.size w (w.alloc (.cells #[.func (.func 35) #[] #[]] 62)) := (Below.refl _ _).alloc (Nat.le_refl _) _
  have hR := h.below b1
  have hcell : (w.alloc (.cells #[.func (.func 35) #[] #[]] 62)).cell? ⟨w.heap.size, 0, none⟩ = some (.func (.func 35) #[] #[]) := by
    rw [World.cell?_alloc_at _ _ _ _ rfl]; rfl
  have B1 := Lib.hid b1
  have HC := Lib.hid hcell
  clear b1 hcell h
  go_enter Try.func34, Try.ntmps34
  go_wp2_with fail
  refine (clone_any _ _ _ _ hm hR).mono ?_
  rintro e w1 ⟨v, rfl, hown, hbel⟩
  have hcell1 : w1.cell? ⟨w.heap.size, 0, none⟩ = some (.func (.func 35) #[] #[]) := (hbel.cell (p := ⟨w.heap.size, 0, none⟩) (by simp)).trans HC.out
  have hown1 : Own w1 (w.heap.size + 1) v zs := by simpa using hown
  have HS := Lib.hid (sort_any _ w1 _ v zs hcell1 (Nat.lt_succ_self _) hown1 (by omega))
  have B2 := Lib.hid (B1.out.trans (hbel.mono (by simp)))
  clear hown hown1 hbel hcell1 hR
  go_wp2_with fail
  refine HS.out.mono ?_
  rintro e w2 ⟨rfl, hown2, hbel2⟩
  go_wp2
  go_ret
  exact ⟨v, rfl, hown2, B2.out.trans (hbel2.mono (by omega))⟩
end Go.Proofs.Ytnkemkgepipjcaa
