/-
  The contracts again, with lengths and results as the caller has them; literals.
-/
import Derived.Test.YtbljkbdbiceokaaLitE
namespace Go.Proofs.Ytbljkbdbiceokaa
open Go.RowKit Go.Lib
open Go.RowKit (Below)

theorem IntsR.lit (w : World) (vs : Array Value) (T : TypeId) (zs : List Int) {b : Nat} (hb : b = w.heap.size) (h : vs.toList = zs.map (Value.int .i64)) : IntsR (w.alloc (.cells vs T)) (some ⟨b, 0, none⟩) zs := by
  subst hb
  refine .inr ⟨w.heap.size, 0, rfl, by simp, fun j hj => ?_⟩
  rw [World.cell?_alloc_at _ _ _ _ rfl, Nat.zero_add, ← Array.getElem?_toList, h, List.getElem?_map, getD_some _ 0 _ hj]; rfl
theorem BoolsR.lit (w : World) (vs : Array Value) (T : TypeId) (zs : List Bool) {b : Nat} (hb : b = w.heap.size) (h : vs.toList = zs.map Value.bool) : BoolsR (w.alloc (.cells vs T)) (some ⟨b, 0, none⟩) zs := by
  subst hb
  refine .inr ⟨w.heap.size, 0, rfl, by simp, fun j hj => ?_⟩
  rw [World.cell?_alloc_at _ _ _ _ rfl, Nat.zero_add, ← Array.getElem?_toList, h, List.getElem?_map, getD_some _ false _ hj]; rfl
theorem IntsR.alloc {w : World} {a : Option Addr} {zs : List Int} (h : IntsR w a zs) (o : Obj) : IntsR (w.alloc o) a zs := h.below ((Below.refl _ _).alloc (Nat.le_refl _) _)
theorem BoolsR.alloc {w : World} {a : Option Addr} {zs : List Bool} (h : BoolsR w a zs) (o : Obj) : BoolsR (w.alloc o) a zs := h.below ((Below.refl _ _).alloc (Nat.le_refl _) _)

theorem check_is {zs : List Int} {n r : Int} {l : Nat} (hl : zs.length = l) (hr : checkI n zs = r) (a : Option Addr) (c : Nat) (w : World) (hb : l ≤ maxLen) (h : IntsR w a zs) :
    Calls Try.prog 58 #[.int .i64 n, .slice a l c] w fun e w' => e = .returned (.int .i64 r) ∧ w = w' := by
  subst hl hr; exact check_any n a c zs w hb h
theorem holds_is {m : List Bool} {zs : List Int} {k l : Nat} {r : Bool} (hk : m.length = k) (hl : zs.length = l) (hr : zs.any (holdsL m) = r) (a c : Option Addr) (ca cc : Nat) (w : World) (hb : k ≤ maxLen) (hc : l ≤ maxLen) (hM : BoolsR w a m) (h : IntsR w c zs) :
    Calls Try.prog 26 #[.slice a k ca, .slice c l cc] w fun e w' => e = .returned (.bool r) ∧ w = w' := by
  subst hk hl hr; exact holds_any a c ca cc m zs w hb hc hM h
theorem equal_is {xs ys : List Int} {k l : Nat} {r : Bool} (hk : xs.length = k) (hl : ys.length = l) (hr : eqB xs ys = r) (a c : Option Addr) (ca cc : Nat) (w : World) (hb : k ≤ maxLen) (hX : IntsR w a xs) (hY : IntsR w c ys) :
    Calls Try.prog 41 #[.slice a k ca, .slice c l cc] w fun e w' => e = .returned (.bool r) ∧ Below w.heap.size w w' := by
  subst hk hl hr; exact (equalInts_any a c ca cc xs ys w hb hX hY).mono fun _ _ ⟨he, q, hq⟩ => ⟨he, by subst hq; exact ⟨rfl, rfl, rfl, Nat.le_refl _, fun _ _ => rfl⟩⟩

end Go.Proofs.Ytbljkbdbiceokaa
