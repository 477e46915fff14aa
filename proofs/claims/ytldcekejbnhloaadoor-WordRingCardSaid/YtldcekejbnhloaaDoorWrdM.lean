/-
  Layer word: a calculator's calls once more, for the laws: in any world that came of the one behind its making.
-/
import Derived.Test.YtldcekejbnhloaaDoorWrdL
import Derived.Deep.RegionHeld3
set_option linter.unusedSectionVars false
set_option linter.unusedVariables false
namespace Go.Proofs.YtldcekejbnhloaaDoor.Words
open Go.RowKit Go.Lib Ops
open Go.RowKit (Below)

theorem wid_rng (x : Nat) : 1 ≤ wid x ∧ wid x ≤ 64 := by unfold wid; omega
theorem low_all {W : Nat} (h : W ≤ 64) : 18446744073709551615 % 2 ^ W = 2 ^ W - 1 := by
  have hm : 2 ^ W * 2 ^ (64 - W) = 18446744073709551616 := by rw [← Nat.pow_add, show W + (64 - W) = 64 by omega, two64]
  have hq := two_pos (64 - W)
  have hp := two_pos W
  generalize 2 ^ W = M at *
  obtain ⟨m, hm2⟩ : ∃ m, 2 ^ (64 - W) = m + 1 := ⟨2 ^ (64 - W) - 1, by omega⟩
  rw [hm2, Nat.mul_add] at hm
  rw [show 18446744073709551615 = M * m + (M - 1) by omega, Nat.mul_add_mod, Nat.mod_eq_of_lt (by omega)]
theorem vv_64 {W : Nat} (h1 : 1 ≤ W) (h : W ≤ 64) (o x y z : Nat) : vv W o x y z < 18446744073709551616 := by have := vv_lt h1 x y z o; have := two_le64 h; omega
section
variable {w1 : World} {W p : Nat} (h1 : 1 ≤ W) (h : W ≤ 64) (hp : Calc w1 p W) (he : OpEnv w1)
include h1 h hp
theorem trim_K {v : Nat} {r : Nat} (hv : v < 18446744073709551616) (hr : v % 2 ^ W = r) : ∀ W', Hid (Below w1.heap.size w1 W') →
    Calls Tryd.prog 26 #[.pointer (some ⟨p, 0, none⟩), .int .u64 (v : Int)] W' fun e w' => e = .returned (.int .u64 (r : Int)) ∧ Hid (Below w1.heap.size w1 w') ∧ w'.cell? ⟨p, 1, none⟩ = some (.bool false) ∧ w'.cell? ⟨p, 0, none⟩ = some (.int .i64 (W : Int)) := fun W' hW => by
  subst hr
  refine (ctrim_any h1 h v hv W' (hp.below hW.out hp.lt)).mono ?_
  rintro e w' ⟨h8, hb⟩
  have h9 := hW.out.trans (hb.mono hW.out.size)
  exact ⟨h8, h9, (hp.below h9 hp.lt).c1, (hp.below h9 hp.lt).c0⟩
theorem signed_K {v : Nat} {r : Int} (hv : v < 18446744073709551616) (hr : sgn W (v % 2 ^ W) = r) : ∀ W', Hid (Below w1.heap.size w1 W') →
    Calls Tryd.prog 18 #[.int .i64 (W : Int), .int .u64 (v : Int)] W' fun e w' => e = .returned (.tuple #[.int .i64 r, .int .i64 0]) ∧ Hid (Below w1.heap.size w1 w') ∧ w'.cell? ⟨p, 1, none⟩ = some (.bool false) ∧ w'.cell? ⟨p, 0, none⟩ = some (.int .i64 (W : Int)) := fun W' hW => by
  subst hr
  have := signed_any (W : Int) v hv W'
  rw [show chk (W : Int) = 0 by unfold chk; rw [if_neg (by omega)], show sgV (W : Int) v = sgn W (v % 2 ^ W) by unfold sgV; rw [if_neg (by omega)]; rfl] at this
  refine this.mono ?_
  rintro e w' ⟨h8, hb⟩
  have h9 := hW.out.trans (hb.mono hW.out.size)
  exact ⟨h8, h9, (hp.below h9 hp.lt).c1, (hp.below h9 hp.lt).c0⟩
include he
theorem of_K {o : Nat} {ns : List Nat} {l r : Nat} (ho : okOp o) (hl : ns.length = arityN o) (hll : ns.length = l) (hn : ∀ x ∈ ns, x < 18446744073709551616) (hr : vv W o (ns.getD 0 0) (ns.getD 1 0) (ns.getD 2 0) = r) {vs : Array Value} (hvs : vs.toList = ns.map fun n => Value.int .u64 ((n : Nat) : Int)) : ∀ W', Hid (Below w1.heap.size w1 W') →
    Calls Tryd.prog 25 #[.pointer (some ⟨p, 0, none⟩), .int .u8 (o : Int), .slice (some ⟨W'.heap.size, 0, none⟩) l l] (W'.alloc (.cells vs 24)) fun e w' => e = .returned (.int .u64 (r : Int)) ∧ Hid (Below w1.heap.size w1 w') ∧ w'.cell? ⟨p, 1, none⟩ = some (.bool false) ∧ w'.cell? ⟨p, 0, none⟩ = some (.int .i64 (W : Int)) := fun W' hW => by
  subst hll hr
  have hA := hW.out.alloc hW.out.size (.cells vs 24)
  refine (of_any h1 h o ho ns hn hl (some ⟨W'.heap.size, 0, none⟩) ns.length _ (hp.below hA hp.lt) (NumsR.lit W' _ _ _ rfl hvs) (he.below hA)).mono ?_
  rintro e w' ⟨h8, hb⟩
  have h9 := hA.trans (hb.mono hA.size)
  exact ⟨h8, h9, (hp.below h9 hp.lt).c1, (hp.below h9 hp.lt).c0⟩
omit hp h1 h in
theorem known_K : ∀ W', Hid (Below w1.heap.size w1 W') → Calls Tryd.prog 12 #[] W' fun e w' => e = .returned (.bool true) ∧ Hid (Below w1.heap.size w1 w') := fun W' hW =>
  (known_any W' (he.below hW.out)).mono fun e w' ⟨h8, hb⟩ => ⟨h8, hW.out.trans (hb.mono hW.out.size)⟩
end
end Go.Proofs.YtldcekejbnhloaaDoor.Words
