/-
  LitChecks' walk.
-/
import Derived.Test.YtiddnahipdlgkaaLitK
namespace Go.Proofs.Ytiddnahipdlgkaa
open Go.RowKit Go.Lib
open Go.RowKit (Below)

set_option maxHeartbeats 1000000 in
theorem litChecks_walk (w : World) (n : Int) (_ : (Lit.int .i64 n).wf = true) (a : Option Addr) (c : Nat) (zs : List Int) (hR : IntsR w a zs) (_ : ∀ x ∈ zs, (Lit.int .i64 x).wf = true) (hm : zs.length ≤ maxLen) :
    Calls Try.prog 3 #[.int .i64 n, .slice a zs.length c] w fun e w' => e = .returned (.bool true) ∧ Below w.heap.size w w' := by
  unfold maxLen at hm
  by_cases hl : 200 < zs.length
  · have hK := known_any w
    go_enter Try.func3, Try.ntmps3
    go_wp2_with (go_at_call 12; refine hK.mono ?_; rintro e w' ⟨rfl, hB⟩)
    go_ret
    exact ⟨rfl, hB⟩
  · have hl' : zs.length ≤ 200 := by omega
    clear hl
    go_enter Try.func3, Try.ntmps3
    go_wp2_with fail
    refine (copyInts_any a c zs w (by omega) hR).mono ?_
    rintro e w1 ⟨v, rfl, hown, hB1⟩
    obtain ⟨a2, c2, rfl, hR2⟩ := hown.reads
    have hR1 := hR.below hB1
    have B1 := Lib.hid hB1
    clear hown hB1 hR
    go_wp2_with fail
    refine (check_any n a2 c2 zs w1 (by unfold maxLen; omega) hR2).mono ?_
    rintro e w2 ⟨rfl, rfl⟩
    go_wp2_with fail
    refine (refCheck_any n a c zs w1 (by unfold maxLen; omega) hR1).mono ?_
    rintro e w2 ⟨rfl, rfl⟩
    have hK := known_any w1
    go_wp2_with (go_at_call 12; refine hK.mono ?_; rintro e w' ⟨rfl, hB⟩)
    go_ret
    exact ⟨rfl, B1.out.trans (hB.mono B1.out.size)⟩
end Go.Proofs.Ytiddnahipdlgkaa
