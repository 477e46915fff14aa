/-
  'known': the closed example that each statement of layer 1 ends with.
-/
import Derived.Test.YtiddnahipdlgkaaLitH
namespace Go.Proofs.Ytiddnahipdlgkaa
open Go.RowKit Go.Lib
open Go.RowKit (Below)

theorem IntsR.lit (w : World) (vs : Array Value) (T : TypeId) (zs : List Int) {b : Nat} (hb : b = w.heap.size) (h : vs.toList = zs.map (Value.int .i64)) : IntsR (w.alloc (.cells vs T)) (some ⟨b, 0, none⟩) zs := by
  subst hb
  refine .inr ⟨w.heap.size, 0, rfl, by simp, fun j hj => ?_⟩
  rw [World.cell?_alloc_at _ _ _ _ rfl, Nat.zero_add, ← Array.getElem?_toList, h, List.getElem?_map, getD_some _ 0 _ hj]; rfl
theorem BoolsR.lit (w : World) (vs : Array Value) (T : TypeId) (zs : List Bool) {b : Nat} (hb : b = w.heap.size) (h : vs.toList = zs.map Value.bool) : BoolsR (w.alloc (.cells vs T)) (some ⟨b, 0, none⟩) zs := by
  subst hb
  refine .inr ⟨w.heap.size, 0, rfl, by simp, fun j hj => ?_⟩
  rw [World.cell?_alloc_at _ _ _ _ rfl, Nat.zero_add, ← Array.getElem?_toList, h, List.getElem?_map, getD_some _ false _ hj]; rfl
theorem IntsR.alloc {w : World} {a : Option Addr} {zs : List Int} (h : IntsR w a zs) (o : Obj) : IntsR (w.alloc o) a zs := h.below ((Below.refl _ _).alloc (Nat.le_refl _) _)
theorem BoolsR.alloc {w : World} {a : Option Addr} {zs : List Bool} (h : BoolsR w a zs) (o : Obj) : BoolsR (w.alloc o) a zs := h.below ((Below.refl _ _).alloc (Nat.le_refl _) _)

/-! The contracts again, with lengths and results as the caller has them. -/
theorem norm_is {zs r : List Int} {is : Bool} {n m : Nat} (hn : zs.length = n) (hm : r.length = m) (hr : normB zs = (r, is)) (c : Option Addr) (cc : Nat) (w : World) (hb : n * 8 ≤ 140737488351232) (h : IntsR w c zs) :
    Calls Try.prog 16 #[.slice c n cc] w fun e w' => ∃ a c2, e = .returned (.tuple #[.slice a m c2, .bool is]) ∧ IntsR w' a r ∧ Below w.heap.size w w' := by
  have := norm_any c cc zs w (by omega) h
  rw [hr, hn] at this
  subst hm
  exact this
theorem check_is {zs : List Int} {n r : Int} {l : Nat} (hl : zs.length = l) (hr : checkI n zs = r) (a : Option Addr) (c : Nat) (w : World) (hb : l ≤ maxLen) (h : IntsR w a zs) :
    Calls Try.prog 13 #[.int .i64 n, .slice a l c] w fun e w' => e = .returned (.int .i64 r) ∧ w = w' := by
  subst hl hr; exact check_any n a c zs w hb h
theorem holds_is {m : List Bool} {zs : List Int} {k l : Nat} {r : Bool} (hk : m.length = k) (hl : zs.length = l) (hr : zs.any (holdsL m) = r) (a c : Option Addr) (ca cc : Nat) (w : World) (hb : k ≤ maxLen) (hc : l ≤ maxLen) (hM : BoolsR w a m) (h : IntsR w c zs) :
    Calls Try.prog 21 #[.slice a k ca, .slice c l cc] w fun e w' => e = .returned (.bool r) ∧ w = w' := by
  subst hk hl hr; exact holds_any a c ca cc m zs w hb hc hM h
theorem equal_is {xs ys : List Int} {k l : Nat} {r : Bool} (hk : xs.length = k) (hl : ys.length = l) (hr : eqB xs ys = r) (a c : Option Addr) (ca cc : Nat) (w : World) (hb : k ≤ maxLen) (hX : IntsR w a xs) (hY : IntsR w c ys) :
    Calls Try.prog 18 #[.slice a k ca, .slice c l cc] w fun e w' => e = .returned (.bool r) ∧ Below w.heap.size w w' := by
  subst hk hl hr; exact (equalInts_any a c ca cc xs ys w hb hX hY).mono fun _ _ ⟨he, q, hq⟩ => ⟨he, by subst hq; exact ⟨rfl, rfl, rfl, Nat.le_refl _, fun _ _ => rfl⟩⟩

/-! What 'sorted' does, said without it. -/
theorem leB_trans (a b c : Int) (h1 : (!lessB b a) = true) (h2 : (!lessB c b) = true) : (!lessB c a) = true := by
  have a1 : ¬ lessB b a = true := by simpa using h1
  have a2 : ¬ lessB c b = true := by simpa using h2
  cases h : lessB c a
  · rfl
  · rw [lessB_iff] at h a1 a2; omega
theorem leB_total (a b : Int) : ((!lessB b a) || (!lessB a b)) = true := by
  cases h1 : lessB b a
  · rfl
  · cases h2 : lessB a b
    · rfl
    · exact absurd h2 (lessB_asymm _ _ h1)
theorem leB_anti (a b : Int) (h1 : (!lessB b a) = true) (h2 : (!lessB a b) = true) : a = b :=
  lessB_total a b (by simpa using h2) (by simpa using h1)
theorem sortL_perm (zs : List Int) : (sortL zs).Perm zs := List.mergeSort_perm _ _
theorem sortL_pairwise (zs : List Int) : (sortL zs).Pairwise (fun x y => (!lessB y x) = true) := List.pairwise_mergeSort (le := fun x y => !lessB y x) leB_trans leB_total zs
theorem sortL_unique {zs ys : List Int} (hp : ys.Perm zs) (hs : ys.Pairwise (fun x y => (!lessB y x) = true)) : sortL zs = ys :=
  List.Perm.eq_of_pairwise (le := fun x y => (!lessB y x) = true) (fun a b _ _ h1 h2 => leB_anti a b h1 h2) (sortL_pairwise zs) hs ((sortL_perm zs).trans hp.symm)
theorem normB_of {zs ys r : List Int} {is : Bool} (hp : ys.Perm zs) (hs : ys.Pairwise (fun x y => (!lessB y x) = true)) (h : (match normFold ys with | none => ([], true) | some r => (r, false)) = (r, is)) : normB zs = (r, is) := by
  unfold normB; rw [sortL_unique hp hs]; exact h

theorem norm_example : normB [3, -1, 3, 2] = ([-1, 2, 3], false) := normB_of (ys := [-1, 2, 3, 3]) (by decide +kernel) (by decide +kernel) (by decide +kernel)
theorem holds_example : ([-1] : List Int).any (holdsL [false, true]) = true := by decide +kernel
theorem check_example : checkI 3 [1, -3] = 0 := by decide +kernel

set_option maxHeartbeats 1000000 in
theorem known_any (w : World) : Calls Try.prog 12 #[] w fun e w' => e = .returned (.bool true) ∧ Below w.heap.size w w' := by
  go_enter Try.func12, Try.ntmps12
  go_wp2_with fail
  refine (norm_is (zs := [3, -1, 3, 2]) (n := 4) (m := 3) rfl rfl norm_example _ _ _ (by omega) (IntsR.lit _ _ _ _ rfl rfl)).mono ?_
  rintro e w1 ⟨a, c2, rfl, hR, hB⟩
  have b1 := Lib.hid (((Below.refl w.heap.size w).alloc (Nat.le_refl _) (.cells #[.int .i64 3, .int .i64 (-1), .int .i64 3, .int .i64 2] 3)).trans (hB.mono (by simp)))
  clear hB
  go_wp2_with fail
  refine (equal_is (xs := [-1, 2, 3]) (ys := [-1, 2, 3]) (k := 3) (l := 3) (r := true) rfl rfl (by decide +kernel) _ _ _ _ _ (by unfold maxLen; omega) (hR.alloc _) (IntsR.lit _ _ _ _ rfl rfl)).mono ?_
  rintro e w2 ⟨rfl, hB2⟩
  have b2 := Lib.hid (b1.out.trans (((Below.refl w.heap.size w1).alloc b1.out.size _).trans (hB2.mono (by have := b1.out.size; simp; omega))))
  clear hR hB2 b1
  go_wp2_with fail
  refine (holds_is (m := [false, true]) (zs := [-1]) (k := 2) (l := 1) (r := true) rfl rfl holds_example _ _ _ _ _ (by unfold maxLen; omega) (by unfold maxLen; omega) ((BoolsR.lit _ _ _ _ rfl rfl).alloc _) (IntsR.lit _ _ _ _ (by simp) rfl)).mono ?_
  rintro e w3 ⟨rfl, rfl⟩
  go_wp2_with fail
  refine (check_is (n := 3) (zs := [1, -3]) (l := 2) rfl check_example _ _ _ (by unfold maxLen; omega) (IntsR.lit _ _ _ _ (by simp) rfl)).mono ?_
  rintro e w4 ⟨rfl, rfl⟩
  go_wp2
  go_ret
  have hs := b2.out.size
  exact ⟨rfl, b2.out.trans ((((Below.refl _ _).alloc (by omega) _).alloc (by simp; omega) _).alloc (by simp; omega) _)⟩
end Go.Proofs.Ytiddnahipdlgkaa
