/-
  LitHolds' walk.
-/
import Derived.Test.YtiddnahipdlgkaaLitK
namespace Go.Proofs.Ytiddnahipdlgkaa
open Go.RowKit Go.Lib
open Go.RowKit (Below)

theorem QuietTo.below {w w' : World} (h : QuietTo w w') (B : Nat) : Below B w w' := by
  obtain ⟨q, rfl⟩ := h; exact ⟨rfl, rfl, rfl, Nat.le_refl _, fun _ _ => rfl⟩

set_option maxHeartbeats 1000000 in
theorem litHolds_walk (w : World) (b : Option Addr) (d : Nat) (m : List Bool) (hM : BoolsR w b m) (hmm : m.length ≤ maxLen) (a : Option Addr) (c : Nat) (zs : List Int) (hR : IntsR w a zs) (_ : ∀ x ∈ zs, (Lit.int .i64 x).wf = true) (hm : zs.length ≤ maxLen) :
    Calls Try.prog 5 #[.slice b m.length d, .slice a zs.length c] w fun e w' => e = .returned (.bool true) ∧ Below w.heap.size w w' := by
  unfold maxLen at hm hmm
  by_cases hl1 : 200 < m.length
  · have hK := known_any w
    go_enter Try.func5, Try.ntmps5
    go_wp2_with (go_at_call 12; refine hK.mono ?_; rintro e w' ⟨rfl, hB⟩)
    go_ret
    exact ⟨rfl, hB⟩
  by_cases hl2 : 200 < zs.length
  · have hK := known_any w
    go_enter Try.func5, Try.ntmps5
    go_wp2_with (go_at_call 12; refine hK.mono ?_; rintro e w' ⟨rfl, hB⟩)
    go_ret
    exact ⟨rfl, hB⟩
  · have hl1' : m.length ≤ 200 := by omega
    have hl2' : zs.length ≤ 200 := by omega
    clear hl1 hl2
    go_enter Try.func5, Try.ntmps5
    go_wp2_with fail
    refine (copyInts_any a c zs w (by omega) hR).mono ?_
    rintro e w1 ⟨v, rfl, hown, hB1⟩
    obtain ⟨a2, c2, rfl, hR2⟩ := hown.reads
    have hR1 := hR.below hB1
    have hM1 := hM.below hB1
    have B1 := Lib.hid hB1
    clear hown hB1 hR hM
    go_wp2_with fail
    refine (holds_any b a2 d c2 m zs w1 (by unfold maxLen; omega) (by unfold maxLen; omega) hM1 hR2).mono ?_
    rintro e w2 ⟨rfl, rfl⟩
    go_wp2_with fail
    refine (refHolds_any b a d c m zs w1 (by unfold maxLen; omega) (by unfold maxLen; omega) hM1 hR1).mono ?_
    rintro e w2 ⟨rfl, hq⟩
    have B2 := Lib.hid (B1.out.trans (hq.below _))
    have hK := known_any w2
    clear hq
    go_wp2_with (go_at_call 12; refine hK.mono ?_; rintro e w' ⟨rfl, hB⟩)
    go_ret
    exact ⟨rfl, B2.out.trans (hB.mono B2.out.size)⟩
end Go.Proofs.Ytiddnahipdlgkaa
