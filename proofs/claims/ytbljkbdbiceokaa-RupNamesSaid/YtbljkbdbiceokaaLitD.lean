/-
  Contracts of 'has', EqualInts and the reference's Holds.
-/
import Derived.Test.YtbljkbdbiceokaaLitC
import Derived.RegionTactic
namespace Go.Proofs.Ytbljkbdbiceokaa
open Go.RowKit Go.Lib

def hasB (zs : List Int) (n : Int) : Bool := zs.any fun x => x == n

def QuietTo (w w' : World) : Prop := ∃ q, w' = w.drewN q
theorem QuietTo.more (w : World) (q n : Nat) : QuietTo w ((w.drewN q).drewN n) := ⟨q + n, World.drewN_drewN ..⟩
theorem QuietTo.more1 (w : World) (q : Nat) : QuietTo w (w.drewN q) := ⟨q, rfl⟩
def eqB (xs ys : List Int) : Bool := decide (xs = ys)
theorem eqB_len (xs ys : List Int) (h : xs.length ≠ ys.length) : eqB xs ys = false := decide_eq_false (fun e => h (by rw [e]))
theorem eqB_off (xs ys : List Int) (k : Nat) (x y : Int) (hx : xs[k]? = some x) (hy : ys[k]? = some y) (h : x ≠ y) : eqB xs ys = false :=
  decide_eq_false (fun e => h (by subst e; rw [hx] at hy; exact Option.some.inj hy))
theorem eqB_all (xs ys : List Int) (h : xs.length = ys.length) (ha : ∀ j, j < xs.length → xs[j]? = ys[j]?) : eqB xs ys = true := by
  refine decide_eq_true (List.ext_getElem? fun j => ?_)
  by_cases hj : j < xs.length
  · exact ha j hj
  · rw [List.getElem?_eq_none (by omega), List.getElem?_eq_none (by omega)]

def SameTo (xs ys : List Int) (k : Nat) : Prop := ∀ j, j < k → xs[j]? = ys[j]?
theorem SameTo.succ {xs ys : List Int} {k : Nat} (h : SameTo xs ys k) {x : Int} (hx : xs[k]? = some x) (hy : ys[k]? = some x) : SameTo xs ys (k + 1) := fun j hj => by
  by_cases e : j = k
  · subst e; rw [hx, hy]
  · exact h j (by omega)

set_option maxHeartbeats 1000000 in
theorem equalInts_any (a c : Option Addr) (ca cc : Nat) (xs ys : List Int) (w : World) (hmx : xs.length ≤ maxLen) (hX : IntsR w a xs) (hY : IntsR w c ys) :
    Calls Try.prog 41 #[.slice a xs.length ca, .slice c ys.length cc] w fun e w' => e = .returned (.bool (eqB xs ys)) ∧ QuietTo w w' := by
  unfold maxLen at hmx
  by_cases hl : xs.length = ys.length
  · have HL := Lib.hid hl
    have e1 : ((xs.length : Int) == ys.length) = true := by simp [hl]
    have e2 : ((xs.length : Int) != ys.length) = false := by simp [hl]
    clear hl
    go_enter Try.func41, Try.ntmps41
    go_wp2
    go_loopw [5] (fun i wr => ∃ k : Nat, k ≤ xs.length ∧ i = .int .i64 k ∧ SameTo xs ys k ∧ QuietTo w wr) (fun i _ => xs.length - (intOf i).toNat)
    case atStart => exact ⟨0, Nat.zero_le _, rfl, fun j hj => by omega, 0, rfl⟩
    case round =>
      obtain ⟨k, hk, rfl, hsame, q, rfl⟩ := hrel
      have Ha := Lib.hid hsame
      clear hsame
      by_cases hlt : k < xs.length
      · have hlt2 : k < ys.length := by have := HL.out; omega
        obtain ⟨b, off, x, rfl, hx, hcx⟩ := hX.at hlt
        obtain ⟨b2, off2, y, rfl, hy, hcy⟩ := hY.at hlt2
        clear hX hY
        by_cases he : x = y
        · subst he
          have hA := Lib.hid (Ha.out.succ hx.out hy.out)
          have e3 : (x != x) = false := by simp
          go_wp2
          go_quiet (fail)
          go_wp2
          go_roundw
          case rel => exact ⟨k + 1, by omega, by go_num, hA.out, QuietTo.more1 _ _⟩
          case measure => simp [intOf]; omega
        · have hA := Lib.hid (eqB_off xs ys k x y hx.out hy.out he)
          have e3 : (x != y) = true := by simp [he]
          clear he
          go_wp2
          go_quiet (fail)
          go_wp2
          go_ret
          exact ⟨ret_bool hA.out.symm, QuietTo.more _ _ _⟩
      · have HA : Hid (eqB xs ys = true) := eqB_all xs ys HL.out (fun j hj => Ha.out j (by omega))
        go_wp2
        go_ret
        exact ⟨ret_bool HA.out.symm, QuietTo.more1 _ _⟩
  · have HL := Lib.hid (eqB_len xs ys hl)
    have e2 : ((xs.length : Int) != ys.length) = true := by simp; omega
    clear hl
    go_enter Try.func41, Try.ntmps41
    go_wp2
    go_ret
    exact ⟨ret_bool HL.out.symm, 0, rfl⟩
end Go.Proofs.Ytbljkbdbiceokaa
