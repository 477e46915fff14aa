/-
  assumed.
-/
import Derived.Test.YtjpjhpokimdblaaPropO
import Derived.Test.YtjpjhpokimdblaaCnfF
namespace Go.Proofs.Ytjpjhpokimdblaa
open Go.RowKit Go.Lib
open Go.RowKit (Below)

set_option maxHeartbeats 1000000 in
theorem assumed_any (V : Int) (hV1 : 1 ≤ V) (hV2 : V ≤ 12) (fs : Value) (a : Option Addr) (c : Nat) (zs : List Int) (w : World) (hwf : ∀ x ∈ zs, (Lit.int .i8 x).wf = true) (hm : zs.length ≤ maxLen) (hK : KI .i8 w a zs) :
    Calls Try.prog 21 #[.agg #[.int .i64 V, fs], .slice a zs.length c] w fun e w' => ∃ v, e = .returned v ∧ Own w' w.heap.size v (fitZ V (zs.take 12)) ∧ Below w.heap.size w w' := by
  have h0 := Lib.hid (box0 w (.int .i64 V) fs 26)
  have HW := Lib.hid hwf
  have HK := Lib.hid hK
  have hmI : (zs.length : Int) ≤ 9223372036854775807 := by have : maxLen = 9223372036854775807 := rfl; omega
  obtain ⟨i0, hi, hz0, hz1, hz2⟩ := info_parts Try.info3
  clear hwf hK hm
  have hbx : (w.alloc (.cells #[.int .i64 V, fs] 26)).heap.size = w.heap.size + 1 := by simp
  have HBX := Lib.hid hbx
  clear hbx
  go_enter Try.func21, Try.ntmps21
  go_wp2
  go_loopw [5, 6] (fun cv i wr => ∃ m : Nat, i = .int .i64 m ∧ m ≤ zs.length ∧ m ≤ 12 ∧ Hid (Own wr (w.heap.size + 1) cv (fitZ V (zs.take m))) ∧ Hid (Below (w.heap.size + 1) (w.alloc (.cells #[.int .i64 V, fs] 26)) wr)) (fun _ i _ => zs.length - (intOf i).toNat)
  case atStart => exact ⟨0, rfl, Nat.zero_le _, by omega, Own.nil _ _, Below.refl _ _⟩
  case round =>
    obtain ⟨m, rfl, hm2, hm12, HO, HB⟩ := hrel
    have c0 : wr.cell? ⟨w.heap.size, 0, none⟩ = some (.int .i64 V) := (HB.out.cell (p := ⟨w.heap.size, 0, none⟩) (Nat.lt_succ_self _)).trans h0.out
    have hsz : w.heap.size + 1 ≤ wr.heap.size := by have := HB.out.size; rw [HBX.out] at this; exact this
    have hle := fitZ_le V (zs.take m)
    have hle2 : (zs.take m).length ≤ m := List.length_take_le _ _
    have hBw : Below w.heap.size w wr := (boxed w _).trans (HB.out.mono (by omega))
    by_cases hml : m < zs.length ∧ m < 12
    · obtain ⟨hml, hm13⟩ := hml
      obtain ⟨b2, off2, x, rfl, HX, hcx⟩ := (HK.out.below hBw).at hml
      have hx := i8_range (HW.out _ (List.mem_of_getElem? HX.out))
      have hx1 := hx.1
      have hx2 := hx.2
      have e1 : IntKind.i64.wrap x = x := IntWalk.i64_in _ (by omega)
      have e2 : IntKind.i64.wrap (V + 1) = V + 1 := IntWalk.i64_in _ (by omega)
      have hV3 : ((V + 1 : Int) == 0) = false := by simp; omega
      clear hx hBw
      by_cases hv : x.tmod (V + 1) = 0
      · have hO : Hid (Own wr (w.heap.size + 1) u5 (fitZ V (zs.take (m + 1)))) := by unfold Hid; rw [fitZ_drop HX.out hv]; exact HO.out
        have e3 : (x.tmod (V + 1) != 0) = false := by simp [hv]
        have e4 : (x.tmod (V + 1) == 0) = true := by simp [hv]
        clear hv HO
        go_wp2
        go_quiet (fail)
        go_wp2
        go_roundw
        case rel => exact ⟨m + 1, by go_num, by omega, by omega, hO.out.quiet ⟨_, rfl⟩, HB.out.trans (quietBelow ⟨_, rfl⟩ _)⟩
        case measure => simp [intOf]; omega
      · have hO := fitZ_keep HX.out hv
        have HK2 := Lib.hid hO
        have e3 : (x.tmod (V + 1) != 0) = true := by simp [hv]
        have e4 : (x.tmod (V + 1) == 0) = false := by simp [hv]
        clear hv hO
        go_wp2
        go_quiet (fail)
        go_wp2_with (at_builtin; refine wpList_append_own _ rfl _ _ 23 rfl (w.heap.size + 1) 3 i0 (.int .i64 0) 1 8 Try.underlying23 hi hz0 hz1 hz2 rfl (by decide) _ _ _ rfl (World.ownsRow.alloc (HO.out.quiet ⟨_, rfl⟩) _) ⟨wr.heap.size, 0, none⟩ 1 1 [.int .i64 (x.tmod (V + 1))] rfl rfl (one_new (by simp)) one_int ?c3 ?c4 ?c5 ?_)
        case c3 => unfold maxLen; omega
        case c4 => omega
        case c5 => simp; omega
        intro v' w2 hown' hgrow _
        have R1 := Lib.hid (Own.of (zs := fitZ V (zs.take (m + 1))) hown' (by rw [HK2.out]; simp) (by rw [HK2.out]; simp))
        have R2 := Lib.hid (Own.below (HO.out.quiet ⟨_, rfl⟩) (HB.out.trans (quietBelow ⟨_, rfl⟩ _)) hsz hgrow)
        clear hown' hgrow HO HB
        go_wp2
        go_roundw
        case rel => exact ⟨m + 1, by go_num, by omega, by omega, R1, R2⟩
        case measure => simp [intOf]; omega
    · have HO2 : Hid (Own wr w.heap.size u5 (fitZ V (zs.take 12))) := by
        have h1 := ownMono HO.out (Nat.le_succ _)
        have h2 : zs.take m = zs.take 12 := by
          by_cases h : m = 12
          · rw [h]
          · have h3 : zs.length = m := by omega
            rw [List.take_of_length_le (by omega), List.take_of_length_le (by omega)]
        rw [h2] at h1
        exact h1
      have HBF := Lib.hid hBw
      clear HO HB hBw c0
      by_cases hml2 : m < zs.length
      · have hm13 : ¬ m < 12 := fun h => hml ⟨hml2, h⟩
        clear hml
        go_wp2
        go_ret
        exact ⟨_, rfl, HO2.out, HBF.out⟩
      · clear hml
        go_wp2
        go_ret
        exact ⟨_, rfl, HO2.out, HBF.out⟩
end Go.Proofs.Ytjpjhpokimdblaa
