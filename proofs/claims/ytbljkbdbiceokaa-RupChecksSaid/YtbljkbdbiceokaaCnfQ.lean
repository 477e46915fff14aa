/-
  Equality of lists and of formulas: slices.Equal, slices.EqualFunc, Equal; EqualLists, EqualFormula.
-/
import Derived.Test.YtbljkbdbiceokaaCnfC
namespace Go.Proofs.Ytbljkbdbiceokaa
open Go.RowKit Go.Lib
open Go.RowKit (Below)

theorem equalInts_is {xs ys : List Int} {k l : Nat} {r : Bool} (hk : xs.length = k) (hl : ys.length = l) (hr : eqB xs ys = r) (a c : Option Addr) (ca cc : Nat) (w : World) (hb : k ≤ maxLen) (hX : IntsR w a xs) (hY : IntsR w c ys) :
    Calls Try.prog 41 #[.slice a k ca, .slice c l cc] w fun e w' => e = .returned (.bool r) ∧ ∃ q, w' = w.drewN q := by
  subst hk hl hr; exact equalInts_any a c ca cc xs ys w hb hX hY

def eqL (xs ys : List (List Int)) : Bool := decide (xs = ys)
theorem eqL_len (xs ys : List (List Int)) (h : xs.length ≠ ys.length) : eqL xs ys = false := decide_eq_false (fun e => h (by rw [e]))
theorem eqL_off {xs ys : List (List Int)} {k : Nat} {x y : List Int} (hx : xs[k]? = some x) (hy : ys[k]? = some y) (h : eqB x y = false) : eqL xs ys = false :=
  decide_eq_false (fun e => by subst e; rw [hx] at hy; cases hy; unfold eqB at h; simp at h)
theorem eqL_all (xs ys : List (List Int)) (h : xs.length = ys.length) (ha : ∀ j, j < xs.length → xs[j]? = ys[j]?) : eqL xs ys = true := by
  refine decide_eq_true (List.ext_getElem? fun j => ?_)
  by_cases hj : j < xs.length
  · exact ha j hj
  · rw [List.getElem?_eq_none (by omega), List.getElem?_eq_none (by omega)]
def SameL (xs ys : List (List Int)) (k : Nat) : Prop := ∀ j, j < k → xs[j]? = ys[j]?
theorem SameL.succ {xs ys : List (List Int)} {k : Nat} (h : SameL xs ys k) {x y : List Int} (hx : xs[k]? = some x) (hy : ys[k]? = some y) (he : eqB x y = true) : SameL xs ys (k + 1) := fun j hj => by
  by_cases e : j = k
  · subst e
    have : x = y := of_decide_eq_true he
    rw [hx, hy, this]
  · exact h j (by omega)
theorem IntsR.still {w w' : World} {a : Option Addr} {z : List Int} (h : IntsR w a z) (hq : QuietTo w w') : IntsR w' a z := h.below (quietBelow hq _)

set_option maxHeartbeats 2000000 in
theorem equalLists_any (a c : Option Addr) (ca cc : Nat) (xs ys : List (List Int)) (w : World) (hmx : xs.length ≤ maxLen) (hA : AllLen xs) (hX : RowsR .i64 w a xs) (hY : RowsR .i64 w c ys) :
    Calls Try.prog 20 #[.slice a xs.length ca, .slice c ys.length cc] w fun e w' => e = .returned (.bool (eqL xs ys)) ∧ QuietTo w w' := by
  unfold maxLen at hmx
  by_cases hl : xs.length = ys.length
  · have HL := Lib.hid hl
    have e1 : ((xs.length : Int) == ys.length) = true := by simp [hl]
    have e2 : ((xs.length : Int) != ys.length) = false := by simp [hl]
    have HX := Lib.hid hX
    have HY := Lib.hid hY
    have HA := Lib.hid hA
    clear hl hX hY hA
    go_enter Try.func20, Try.ntmps20
    go_wp2
    go_loopw [5] (fun i wr => ∃ k : Nat, k ≤ xs.length ∧ i = .int .i64 k ∧ Hid (SameL xs ys k) ∧ Hid (QuietTo w wr)) (fun i _ => xs.length - (intOf i).toNat)
    case atStart => exact ⟨0, Nat.zero_le _, rfl, (fun j hj => by omega), QuietTo.rfl'⟩
    case round =>
      obtain ⟨k, hk, rfl, HS, HQ⟩ := hrel
      by_cases hlt : k < xs.length
      · obtain ⟨b, off, aj, cj, x, rfl, _, HZ, hcx, HK⟩ := (HX.out.quiet HQ.out).at hlt
        obtain ⟨b2, off2, aj2, cj2, y, rfl, _, HZ2, hcy, HK2⟩ := (HY.out.quiet HQ.out).at (j := k) (by have := HL.out; omega)
        have hzl := HA.out.at HZ.out
        have hlt2 : k < ys.length := by have := HL.out; omega
        clear HX HY HA
        cases he : eqB x y
        · have hS := Lib.hid (eqL_off HZ.out HZ2.out he)
          have HE := Lib.hid he
          clear he
          go_wp2
          go_quiet ((go_at_call 41; exact Calls.quiet_of (equalInts_is rfl rfl HE.out aj aj2 cj cj2 _ hzl HK.out HK2.out)))
          go_wp2
          go_ret
          exact ⟨ret_bool hS.out.symm, HQ.out.on _⟩
        · have hS := Lib.hid (HS.out.succ HZ.out HZ2.out he)
          have HE := Lib.hid he
          clear he
          go_wp2
          go_quiet ((go_at_call 41; exact Calls.quiet_of (equalInts_is rfl rfl HE.out aj aj2 cj cj2 _ hzl HK.out HK2.out)))
          go_wp2
          go_roundw
          case rel => exact ⟨k + 1, by omega, by go_num, hS, HQ.out.on _⟩
          case measure => simp [intOf]; omega
      · have hS : Hid (eqL xs ys = true) := eqL_all xs ys HL.out (fun j hj => HS.out j (by omega))
        go_wp2
        go_ret
        exact ⟨ret_bool hS.out.symm, HQ.out⟩
  · have HL := Lib.hid (eqL_len xs ys hl)
    have e2 : ((xs.length : Int) != ys.length) = true := by simp; omega
    clear hl
    go_enter Try.func20, Try.ntmps20
    go_wp2
    go_ret
    exact ⟨ret_bool HL.out.symm, 0, rfl⟩
end Go.Proofs.Ytbljkbdbiceokaa
