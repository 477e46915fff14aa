/-
  OpOfs' walk.
-/
import Derived.Test.YtnhcbnjibkfnnaaDoorOpB
import Derived.Test.YtnhcbnjibkfnnaaDoorRowLaidOp
namespace Go.Proofs.YtnhcbnjibkfnnaaDoor
open Go.RowKit Go.Lib Ops
open Go.RowKit (Below)

theorem ofPost_same {s : ByteArray} {e e' : Ending} (h : OfPost s e) (h' : OfPost s e') : e = e' := by
  have hinj : ∀ k j, k < 20 → j < 20 → nameB (k + 2) = nameB (j + 2) → k = j := by
    have : ((List.range 20).all fun k => (List.range 20).all fun j => !(nameL (k + 2) == nameL (j + 2)) || k == j) = true := by decide +kernel
    intro k j hk hj h
    have h1 := List.all_eq_true.1 (List.all_eq_true.1 this k (List.mem_range.2 hk)) j (List.mem_range.2 hj)
    have h2 : nameL (k + 2) = nameL (j + 2) := by simpa [nameB] using congrArg (fun b => b.data.toList) h
    simpa [h2] using h1
  rcases h with ⟨k, hk, rfl, rfl⟩ | ⟨h, rfl⟩
  · rcases h' with ⟨j, hj, hn, rfl⟩ | ⟨h', _⟩
    · obtain rfl := hinj j k hj hk hn; rfl
    · exact absurd rfl (h' k hk)
  · rcases h' with ⟨j, hj, hn, rfl⟩ | ⟨h', rfl⟩
    · exact absurd hn (h j hj)
    · rfl

set_option maxRecDepth 100000 in
set_option maxHeartbeats 4000000 in
theorem opOfs_walk (w : World) (s : ByteArray) (_ : s.size ≤ maxLen) (he : Env w) :
    Calls Tryd.prog 4 #[.string s] w fun e w' => e = .returned (.bool true) ∧ Below w.heap.size w w' := by
  have HE := Lib.hid he
  clear he
  by_cases hl : 2000 < s.size
  · have hl' : 2000 < (s.size : Int) := by omega
    go_enter Tryd.func4, Tryd.ntmps4
    go_wp2_with fail
    refine (lawKnown_is _ HE.out).mono ?_
    rintro e w2 ⟨rfl, hB⟩
    have HB := Lib.hid hB
    clear hB
    go_wp2
    go_ret
    exact ⟨rfl, HB.out⟩
  · have hl' : ¬ 2000 < (s.size : Int) := by omega
    go_enter Tryd.func4, Tryd.ntmps4
    go_wp2_with fail
    refine (of_is _ _).mono ?_
    rintro e w1 ⟨hP, hB⟩
    have HB1 := Lib.hid hB
    have HP := Lib.hid hP
    clear hB
    obtain ⟨o, f, rfl⟩ : ∃ o f : Int, e = .returned (.tuple #[.int .u8 o, .int .i64 f]) := by
      rcases hP with ⟨k, _, _, rfl⟩ | ⟨_, rfl⟩ <;> exact ⟨_, _, rfl⟩
    clear hP
    go_wp2_with fail
    refine (rof_is _ _).mono ?_
    rintro e w2 ⟨hP, hB⟩
    obtain rfl := ofPost_same HP.out hP
    have HB2 := Lib.hid (HB1.out.trans (hB.mono HB1.out.size))
    clear hB hP HB1 HP
    go_wp2_with fail
    refine (lawKnown_is _ (HE.out.below HB2.out)).mono ?_
    rintro e w3 ⟨rfl, hB⟩
    have HB3 := Lib.hid (HB2.out.trans (hB.mono HB2.out.size))
    clear hB HB2
    go_wp2
    go_ret
    exact ⟨rfl, HB3.out⟩
end Go.Proofs.YtnhcbnjibkfnnaaDoor
