/-
  Layer word: what the laws call: is, known, and a calculator of a width.
-/
import Derived.Test.YtldcekejbnhloaaDoorWrdJ
import Derived.OwnWalk
set_option linter.unusedSectionVars false
set_option linter.unusedVariables false
namespace Go.Proofs.YtldcekejbnhloaaDoor.Words
open Go.RowKit Go.Lib Ops
open Go.RowKit (Below)

theorem is_any (want : Int) (o : Nat) (ho : o ≤ 255) (n : Int) (ns : List Nat) (hn : ∀ x ∈ ns, x < 18446744073709551616) (hm : ns.length ≤ maxLen) (ad : Option Addr) (c : Nat) (w : World) (hN : NumsR w ad ns) (he : OpEnv w) :
    Calls Tryd.prog 22 #[.int .u64 want, .int .u8 (o : Int), .int .i64 n, .slice ad ns.length c] w fun e w' => e = .returned (.bool (((apV o n ns : Nat) : Int) == want && apE o n ns.length == 0)) ∧ Below w.heap.size w w' := by
  have KA := Lib.hid (apply_any o ho n ns hn hm ad c w hN he)
  obtain ⟨v, hv⟩ : ∃ v, apV o n ns = v := ⟨_, rfl⟩
  obtain ⟨f, hf⟩ : ∃ f, apE o n ns.length = f := ⟨_, rfl⟩
  rw [hv, hf] at KA ⊢
  clear hv hf hn hm hN he ho
  cases h1 : ((v : Int) == want)
  all_goals
    go_enter Tryd.func22, Tryd.ntmps22
    go_wp2_with (go_at_call 13; refine KA.out.mono ?_; rintro e w' ⟨rfl, hB⟩; have HB := Lib.hid hB; clear hB)
    go_ret
    exact ⟨rfl, HB.out⟩
theorem is_true {want : Int} {o : Nat} {n : Int} {ns : List Nat} {l : Nat} (hv : ((apV o n ns : Nat) : Int) = want) (hE : apE o n ns.length = 0) (hl : ns.length = l) (ho : o ≤ 255) (hn : ∀ x ∈ ns, x < 18446744073709551616) (hm : l ≤ maxLen) (ad : Option Addr) (c : Nat) (w : World) (hN : NumsR w ad ns) (he : OpEnv w) :
    Calls Tryd.prog 22 #[.int .u64 want, .int .u8 (o : Int), .int .i64 n, .slice ad l c] w fun e w' => e = .returned (.bool true) ∧ Below w.heap.size w w' := by
  subst hl
  have := is_any want o ho n ns hn hm ad c w hN he
  rw [hv, hE] at this
  simpa using this
set_option maxRecDepth 20000 in
set_option maxHeartbeats 4000000 in
theorem known_any (w : World) (he : OpEnv w) : Calls Tryd.prog 12 #[] w fun e w' => e = .returned (.bool true) ∧ Below w.heap.size w w' := by
  have HE := Lib.hid he
  clear he
  have HA : Hid (Below w.heap.size w (w.alloc (.cells #[.int .u64 5, .int .u64 6] 24))) := (Below.refl _ _).alloc (Nat.le_refl _) _
  have K1 : Hid (Calls Tryd.prog 22 #[.int .u64 3, .int .u8 4, .int .i64 3, .slice (some ⟨w.heap.size, 0, none⟩) 2 2] (w.alloc (.cells #[.int .u64 5, .int .u64 6] 24)) fun e w' => e = .returned (.bool true) ∧ Below w.heap.size w w') := by
    refine (is_true (want := 3) (o := 4) (n := 3) (ns := [5, 6]) (l := 2) (by decide +kernel) (by decide +kernel) rfl (by omega) (by simp) (by unfold maxLen; omega) (some ⟨w.heap.size, 0, none⟩) 2 _ (NumsR.lit w _ _ _ rfl (by simp)) (HE.out.below HA.out)).mono ?_
    rintro e w' ⟨he, hb⟩
    exact ⟨he, HA.out.trans (hb.mono (by simp))⟩
  have K2 : Hid (∀ W, Below w.heap.size w W → Calls Tryd.prog 22 #[.int .u64 7, .int .u8 14, .int .i64 3, .slice (some ⟨W.heap.size, 0, none⟩) 2 2] (W.alloc (.cells #[.int .u64 6, .int .u64 1] 24)) fun e w' => e = .returned (.bool true) ∧ Below w.heap.size w w') := fun W hW => by
    have hA := hW.alloc hW.size (.cells #[.int .u64 6, .int .u64 1] 24)
    refine (is_true (want := 7) (o := 14) (n := 3) (ns := [6, 1]) (l := 2) (by decide +kernel) (by decide +kernel) rfl (by omega) (by simp) (by unfold maxLen; omega) (some ⟨W.heap.size, 0, none⟩) 2 _ (NumsR.lit W _ _ _ rfl (by simp)) (HE.out.below hA)).mono ?_
    rintro e w' ⟨he, hb⟩
    exact ⟨he, hA.trans (hb.mono hA.size)⟩
  go_enter Tryd.func12, Tryd.ntmps12
  go_wp2_with (first | (go_at_call 22; with_reducible refine K1.out.mono ?_; rintro e w1 ⟨rfl, hB⟩; have HB := Lib.hid hB; clear hB) | (go_at_call 22; with_reducible refine (K2.out _ HB.out).mono ?_; rintro e w2 ⟨rfl, hB⟩; have HB2 := Lib.hid hB; clear hB))
  go_ret
  exact ⟨rfl, HB2.out⟩

/-! A calculator. -/
/-- The block p holds a calculator of width W that has met no error. -/
def Calc (w : World) (p W : Nat) : Prop := w.heap[p]? = some (.cells #[.int .i64 (W : Int), .bool false] 48)
theorem Calc.lt {w : World} {p W : Nat} (h : Calc w p W) : p < w.heap.size := (Array.getElem?_eq_some_iff.1 h).1
theorem Calc.c0 {w : World} {p W : Nat} (h : Calc w p W) : w.cell? ⟨p, 0, none⟩ = some (.int .i64 (W : Int)) := by unfold Calc at h; simp [World.cell?, h]
theorem Calc.c1 {w : World} {p W : Nat} (h : Calc w p W) : w.cell? ⟨p, 1, none⟩ = some (.bool false) := by unfold Calc at h; simp [World.cell?, h]
theorem Calc.free {w : World} {p W : Nat} (h : Calc w p W) (i : Nat) : w.frozen? ⟨p, i, none⟩ = false := by unfold Calc at h; simp [World.frozen?, h]
theorem Calc.below {w w' : World} {p W B : Nat} (h : Calc w p W) (hb : Below B w w') (hp : p < B) : Calc w' p W := (hb.block p hp).trans h
theorem Calc.same {w w' : World} {p W B : Nat} (h : Calc w' p W) (hb : Below B w w') : Below B w (w'.setCell ⟨p, 1, none⟩ (.bool false)) := by
  refine hb.trans ⟨rfl, rfl, rfl, by simp [World.setCell], fun k hk => ?_⟩
  by_cases hkp : k = p
  · subst hkp
    unfold Calc at h
    simp [World.setCell, Array.getElem?_modify, h]
  · exact Below.heap_setCell _ _ _ _ hkp
/-- The operator o of three numbers, at the width W. -/
def vv (W o x y z : Nat) : Nat := res W o (x % 2 ^ W) (y % 2 ^ W) (z % 2 ^ W)
def wid (x : Nat) : Nat := 1 + x % 64
theorem with_is (x : Nat) (hx : x ≤ 255) (w : World) : Calls Tryd.prog 23 #[.int .u8 (x : Int)] w fun e w' => e = .returned (.pointer (some ⟨w.heap.size, 0, none⟩)) ∧ Calc w' w.heap.size (wid x) ∧ Below w.heap.size w w' := by
  have HX : Hid (Calc (w.alloc (.cells #[.int .i64 ((wid x : Nat) : Int), .bool false] 48)) w.heap.size (wid x)) := heap_alloc_new _ _
  have hw : IntKind.i64.wrap (x : Int) = x := i64_small x (by omega) (by omega)
  have hw2 : IntKind.i64.wrap (1 + (x : Int) % 64) = ((wid x : Nat) : Int) := by rw [i64_small _ (by omega) (by omega)]; unfold wid; omega
  have hw3 : IntKind.i64.wrap ((x : Int).tmod 64) = (x : Int) % 64 := by rw [Int.tmod_eq_emod_of_nonneg (by omega)]; exact i64_small _ (by omega) (by omega)
  have hw4 : (x : Int).tmod 64 = (x : Int) % 64 := Int.tmod_eq_emod_of_nonneg (by omega)
  have hw5 : 1 + (x : Int) % 64 = ((wid x : Nat) : Int) := by unfold wid; omega
  obtain ⟨k, hk⟩ : ∃ k, wid x = k := ⟨_, rfl⟩
  rw [hk] at HX hw2 hw5 ⊢
  clear hk
  go_enter Tryd.func23, Tryd.ntmps23
  go_wp2
  go_ret
  exact ⟨rfl, HX.out, (Below.refl _ _).alloc (Nat.le_refl _) _⟩
set_option maxRecDepth 20000 in
theorem of_any {W p : Nat} (h1 : 1 ≤ W) (h : W ≤ 64) (o : Nat) (ho : okOp o) (ns : List Nat) (hn : ∀ x ∈ ns, x < 18446744073709551616) (hl : ns.length = arityN o) (ad : Option Addr) (c : Nat) (w : World) (hp : Calc w p W) (hN : NumsR w ad ns) (he : OpEnv w) :
    Calls Tryd.prog 25 #[.pointer (some ⟨p, 0, none⟩), .int .u8 (o : Int), .slice ad ns.length c] w fun e w' => e = .returned (.int .u64 (vv W o (ns.getD 0 0) (ns.getD 1 0) (ns.getD 2 0) : Nat)) ∧ Below w.heap.size w w' := by
  have KA := Lib.hid (apply_any o (by unfold okOp at ho; omega) W ns hn (by rw [hl]; have := arityN_ok ho; unfold maxLen; omega) ad c w hN he)
  rw [apE_ok h1 h ho hl, apV_ok h1 h ho hl] at KA
  unfold vv
  obtain ⟨v, hv⟩ : ∃ v, res W o (ns.getD 0 0 % 2 ^ W) (ns.getD 1 0 % 2 ^ W) (ns.getD 2 0 % 2 ^ W) = v := ⟨_, rfl⟩
  rw [hv] at KA ⊢
  have c0 := hp.c0
  have HP := Lib.hid hp
  clear hv hn hl hN he ho hp h1 h
  go_enter Tryd.func25, Tryd.ntmps25
  go_wp2_with (go_at_call 13; refine KA.out.mono ?_; rintro e w2 ⟨rfl, hB⟩; have HB := Lib.hid hB; have HQ := Lib.hid (HP.out.below hB HP.out.lt); have d1 := HQ.out.c1; have d2 := HQ.out.free 1; clear hB)
  go_ret
  exact ⟨rfl, HQ.out.same HB.out⟩
theorem ctrim_any {W p : Nat} (h1 : 1 ≤ W) (h : W ≤ 64) (v : Nat) (hv : v < 18446744073709551616) (w : World) (hp : Calc w p W) :
    Calls Tryd.prog 26 #[.pointer (some ⟨p, 0, none⟩), .int .u64 (v : Int)] w fun e w' => e = .returned (.int .u64 (v % 2 ^ W : Nat)) ∧ Below w.heap.size w w' := by
  have KA := Lib.hid (trim_any (W : Int) v hv w)
  rw [show chk (W : Int) = 0 by unfold chk; rw [if_neg (by omega)], show trV (W : Int) v = v % 2 ^ W by unfold trV; rw [if_neg (by omega)]; rfl] at KA
  obtain ⟨r, hr⟩ : ∃ r, v % 2 ^ W = r := ⟨_, rfl⟩
  rw [hr] at KA ⊢
  have c0 := hp.c0
  have HP := Lib.hid hp
  clear hv hr hp h1 h
  go_enter Tryd.func26, Tryd.ntmps26
  go_wp2_with (go_at_call 16; refine KA.out.mono ?_; rintro e w2 ⟨rfl, hB⟩; have HB := Lib.hid hB; have HQ := Lib.hid (HP.out.below hB HP.out.lt); have d1 := HQ.out.c1; have d2 := HQ.out.free 1; clear hB)
  go_ret
  exact ⟨rfl, HQ.out.same HB.out⟩
end Go.Proofs.YtldcekejbnhloaaDoor.Words
