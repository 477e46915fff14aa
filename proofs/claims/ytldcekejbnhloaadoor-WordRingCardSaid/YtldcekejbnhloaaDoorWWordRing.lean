/-
  WordRing's walk.
-/
import Derived.Test.YtldcekejbnhloaaDoorWrdR
import Derived.Test.YtldcekejbnhloaaDoorWRingA
import Derived.Test.YtldcekejbnhloaaDoorWRingB
import Derived.Test.YtldcekejbnhloaaDoorWWordTrims
set_option linter.unusedVariables false
namespace Go.Proofs.YtldcekejbnhloaaDoor
open Go.RowKit Go.Lib Ops Words
open Go.RowKit (Below)

set_option maxRecDepth 200000 in
set_option maxHeartbeats 16000000 in
theorem wordRing_walk (w : World) (wd : Int) (hwd : (Lit.int .u8 wd).wf = true) (x : Int) (hx : (Lit.int .u64 x).wf = true) (y : Int) (hy : (Lit.int .u64 y).wf = true) (z : Int) (hz : (Lit.int .u64 z).wf = true) (he : Env w) :
    Calls Tryd.prog 7 #[.int .u8 wd, .int .u64 x, .int .u64 y, .int .u64 z] w fun e w' => e = .returned (.bool true) ∧ Below w.heap.size w w' := by
  obtain ⟨v, rfl, hv⟩ : ∃ v : Nat, wd = v ∧ v ≤ 255 := by have := u8_range hwd; exact ⟨wd.toNat, by omega, by omega⟩
  obtain ⟨x, rfl, lx⟩ := u64_nat hx
  obtain ⟨y, rfl, ly⟩ := u64_nat hy
  obtain ⟨z, rfl, lz⟩ := u64_nat hz
  have KW := Lib.hid (with_is v hv w)
  obtain ⟨h1, h⟩ := wid_rng v
  obtain ⟨W, hW⟩ : ∃ k, wid v = k := ⟨_, rfl⟩
  rw [hW] at KW h1 h
  have HE := Lib.hid he
  clear he hW hwd hx hy hz
  go_enter Tryd.func7, Tryd.ntmps7
  go_wp2_with fail
  refine KW.out.mono ?_
  rintro e w1 ⟨rfl, hp, hB1⟩
  have he1 := HE.out.below hB1
  have HB1 := Lib.hid hB1
  have hb0 : Hid (Below w1.heap.size w1 w1) := Below.refl _ _
  have hc0 : w1.cell? ⟨w.heap.size, 0, none⟩ = some (.int .i64 (W : Int)) := hp.c0
  have KN : Hid (∀ W', Hid (Below w1.heap.size w1 W') → Calls Tryd.prog 12 #[] W' fun e w' => e = .returned (.bool true) ∧ Hid (Below w1.heap.size w1 w')) := known_K he1
  clear hB1 KW HE
  have g : ∀ o x y z, vv W o x y z < 18446744073709551616 := fun o x y z => vv_64 h1 h o x y z
  have K1 : Hid (∀ o : Nat, commN o = true → ∀ W', Hid (Below w1.heap.size w1 W') → Calls Tryd.prog 25 #[.pointer (some ⟨w.heap.size, 0, none⟩), .int .u8 (o : Int), .slice (some ⟨W'.heap.size, 0, none⟩) 2 2] (W'.alloc (.cells #[.int .u64 (x : Int), .int .u64 (y : Int)] 24)) fun e w' => e = .returned (.int .u64 (vv W o x y 0 : Nat)) ∧ Hid (Below w1.heap.size w1 w')) := fun o ho W' hW' =>
    (of_K h1 h hp he1 (ns := [x, y]) (l := 2) (comm_ok ho).1 (comm_ok ho).2.symm rfl (by simp; omega) rfl (by simp) W' hW').mono fun e w' ⟨h8, h9, _⟩ => ⟨h8, h9⟩
  have K2 : Hid (∀ o : Nat, commN o = true → ∀ W', Hid (Below w1.heap.size w1 W') → Calls Tryd.prog 25 #[.pointer (some ⟨w.heap.size, 0, none⟩), .int .u8 (o : Int), .slice (some ⟨W'.heap.size, 0, none⟩) 2 2] (W'.alloc (.cells #[.int .u64 (y : Int), .int .u64 (x : Int)] 24)) fun e w' => e = .returned (.int .u64 (vv W o x y 0 : Nat)) ∧ Hid (Below w1.heap.size w1 w')) := fun o ho W' hW' =>
    (of_K h1 h hp he1 (ns := [y, x]) (l := 2) (comm_ok ho).1 (comm_ok ho).2.symm rfl (by simp; omega) (by rw [vv_comm h1 x y o ho]; rfl) (by simp) W' hW').mono fun e w' ⟨h8, h9, _⟩ => ⟨h8, h9⟩
  have HP := Lib.hid hp
  have HE1 := Lib.hid he1
  have H1 := Lib.hid h1
  have H := Lib.hid h
  have LX := Lib.hid lx
  have LY := Lib.hid ly
  have LZ := Lib.hid lz
  have HG := Lib.hid g
  clear hp he1 h1 h lx ly lz g hc0
  go_wp2
  go_loopw [10] (fun o wr => ∃ k : Nat, o = .int .u8 k ∧ 2 ≤ k ∧ k ≤ 22 ∧ Hid (Below w1.heap.size w1 wr)) (fun o _ => 22 - (intOf o).toNat)
  case atStart => exact ⟨2, rfl, by omega, by omega, hb0⟩
  case round =>
    obtain ⟨k, rfl, hk2, hk, HB⟩ := hrel
    clear hb0
    by_cases hlt : k < 22
    · have hk1 : (k : Int) ≤ 21 := by omega
      have hu : IntKind.u8.wrap ((k : Int) + 1) = (k : Int) + 1 := by simp [IntKind.wrap, IntKind.bits, IntKind.signed]; omega
      have hu2 : ((k : Int) + 1) % 256 = (k : Int) + 1 := by omega
      have KC := Lib.hid (commutes_is k (by omega) wr)
      cases hc : commN k
      · rw [hc] at KC
        clear K1 K2 hc
        go_wp2_with (go_at_call 24; refine KC.out.mono ?_; rintro e w' ⟨rfl, rfl⟩)
        go_roundw
        case rel => exact ⟨k + 1, by go_num, by omega, by omega, HB⟩
        case measure => simp [intOf]; omega
      · rw [hc] at KC
        have L1 := Lib.hid (K1.out k hc)
        have L2 := Lib.hid (K2.out k hc)
        obtain ⟨V, hV⟩ : ∃ V, vv W k x y 0 = V := ⟨_, rfl⟩
        rw [hV] at L1 L2
        clear K1 K2 hc hV
        go_wp2_with (first | (go_at_call 24; refine KC.out.mono ?_; rintro e w' ⟨rfl, rfl⟩) | (go_at_call 25; with_reducible refine (L1.out _ (by assumption)).mono ?_; rintro e w2 ⟨rfl, hb⟩) | (go_at_call 25; with_reducible refine (L2.out _ (by assumption)).mono ?_; rintro e w3 ⟨rfl, HB3⟩))
        go_roundw
        case rel => exact ⟨k + 1, by go_num, by omega, by omega, HB3⟩
        case measure => simp [intOf]; omega
    · have hk22 : ¬ (k : Int) ≤ 21 := by omega
      clear K1 K2 hlt hk hk2
      go_wp2
      obtain ⟨r1, hr1⟩ : ∃ r, wr.heap.size = r := ⟨_, rfl⟩
      obtain ⟨w5, hw5⟩ : ∃ w5, wr.alloc (.cells #[.int .u8 4, .int .u8 6, .int .u8 9, .int .u8 10, .int .u8 11] 5) = w5 := ⟨_, rfl⟩
      have B5 : Hid (Below w1.heap.size w1 w5) := by unfold Hid; rw [← hw5]; exact HB.out.alloc HB.out.size _
      have F5 : Hid (w5.heap[r1]? = some (.cells #[.int .u8 4, .int .u8 6, .int .u8 9, .int .u8 10, .int .u8 11] 5)) := by unfold Hid; rw [← hw5, ← hr1]; exact heap_alloc_new _ _
      have P5 : Hid (Calc w5 w.heap.size W) := HP.out.below B5.out HP.out.lt
      have E5 : Hid (OpEnv w5) := HE1.out.below B5.out
      have C5 : Hid (∀ i, i < 5 → ∀ W', Hid (Below w5.heap.size w5 W') → W'.cell? ⟨r1, i, none⟩ = some (.int .u8 (ringOp i : Nat))) := fun i hi W' hW' => by
        have hlt : r1 < w5.heap.size := (Array.getElem?_eq_some_iff.1 F5.out).1
        have := (hW'.out.block r1 hlt).trans F5.out
        unfold World.cell?
        rw [this]
        rcases (show i = 0 ∨ i = 1 ∨ i = 2 ∨ i = 3 ∨ i = 4 by omega) with rfl | rfl | rfl | rfl | rfl <;> rfl
      have HAL : Hid (∀ W' o, Hid (Below w5.heap.size w5 W') → Hid (Below w5.heap.size w5 (W'.alloc o))) := fun W' o hW' => hW'.out.alloc hW'.out.size o
      have HDR : Hid (∀ W', Hid (Below w5.heap.size w5 W') → Hid (Below w5.heap.size w5 W'.drew)) := fun W' hW' => hW'.out.drew
      have hb5 : Hid (Below w5.heap.size w5 w5) := Below.refl _ _
      rw [hw5, hr1]
      clear hw5 hr1 F5 HB
      go_loopw [12] (fun i wr => ∃ j : Nat, i = .int .i64 j ∧ j ≤ 5 ∧ Hid (Below w5.heap.size w5 wr)) (fun i _ => 5 - (intOf i).toNat)
      case atStart => exact ⟨0, rfl, by omega, hb5⟩
      case round =>
        obtain ⟨wo, rfl⟩ : ∃ wo : World, wo = wr := ⟨wr, rfl⟩
        obtain ⟨j, rfl, hj, HB⟩ := hrel
        clear hb5
        by_cases hlt : j < 5
        · have hj1 : (j : Int) < 5 := by omega
          have hj0 : (0 : Int) ≤ (j : Int) := by omega
          obtain ⟨r1ok, r2ok, _⟩ := ring_ok hlt
          have hass := vv_assoc H1.out x y z j hlt
          have cj := C5.out j hlt
          obtain ⟨a, ha⟩ : ∃ a, ringOp j = a := ⟨_, rfl⟩
          rw [ha] at r1ok r2ok hass cj
          obtain ⟨P, eP⟩ : ∃ P, vv W a x y 0 = P := ⟨_, rfl⟩
          obtain ⟨Q, eQ⟩ : ∃ Q, vv W a y z 0 = Q := ⟨_, rfl⟩
          obtain ⟨V, eV⟩ : ∃ V, vv W a P z 0 = V := ⟨_, rfl⟩
          rw [eP, eQ, eV] at hass
          have gP : P < 18446744073709551616 := by rw [← eP]; exact HG.out _ _ _ _
          have gQ : Q < 18446744073709551616 := by rw [← eQ]; exact HG.out _ _ _ _
          have A1 : Hid (∀ W' g, Hid (Below w5.heap.size w5 W') → NumsR W' (some ⟨g, 0, none⟩) [x, y] → Calls Tryd.prog 25 #[.pointer (some ⟨w.heap.size, 0, none⟩), .int .u8 (a : Int), .slice (some ⟨g, 0, none⟩) 2 2] W' fun e w' => e = .returned (.int .u64 (P : Int)) ∧ Hid (Below w5.heap.size w5 w') ∧ Step W' w') := of_R H1.out H.out P5.out E5.out r1ok r2ok LX.out LY.out eP
          have A2 : Hid (∀ W' g, Hid (Below w5.heap.size w5 W') → NumsR W' (some ⟨g, 0, none⟩) [P, z] → Calls Tryd.prog 25 #[.pointer (some ⟨w.heap.size, 0, none⟩), .int .u8 (a : Int), .slice (some ⟨g, 0, none⟩) 2 2] W' fun e w' => e = .returned (.int .u64 (V : Int)) ∧ Hid (Below w5.heap.size w5 w') ∧ Step W' w') := of_R H1.out H.out P5.out E5.out r1ok r2ok gP LZ.out eV
          have A3 : Hid (∀ W' g, Hid (Below w5.heap.size w5 W') → NumsR W' (some ⟨g, 0, none⟩) [y, z] → Calls Tryd.prog 25 #[.pointer (some ⟨w.heap.size, 0, none⟩), .int .u8 (a : Int), .slice (some ⟨g, 0, none⟩) 2 2] W' fun e w' => e = .returned (.int .u64 (Q : Int)) ∧ Hid (Below w5.heap.size w5 w') ∧ Step W' w') := of_R H1.out H.out P5.out E5.out r1ok r2ok LY.out LZ.out eQ
          have A4 : Hid (∀ W' g, Hid (Below w5.heap.size w5 W') → NumsR W' (some ⟨g, 0, none⟩) [x, Q] → Calls Tryd.prog 25 #[.pointer (some ⟨w.heap.size, 0, none⟩), .int .u8 (a : Int), .slice (some ⟨g, 0, none⟩) 2 2] W' fun e w' => e = .returned (.int .u64 (V : Int)) ∧ Hid (Below w5.heap.size w5 w') ∧ Step W' w') := of_R H1.out H.out P5.out E5.out r1ok r2ok LX.out gQ hass.symm
          have HH : Hid (∀ W', Hid (Below w5.heap.size w5 W') → W'.cell? ⟨r1, j, none⟩ = some (.int .u8 (a : Int)) ∧ Hid (Below w5.heap.size w5 W')) := fun W' hW' => ⟨cj W' hW', hW'⟩
          have HD : Hid (Below w5.heap.size w5 wo.drew) := HB.out.drew
          have CO := HB
          clear r1ok r2ok hass cj ha eP eQ eV gP gQ HB
          go_wp2
          refine ring_assoc (x := x) (y := y) (z := z) (P := P) (Q9 := Q) (V := V) CO hj1 hj0 HH A1 A2 A3 A4 _ _ _ _ _ _ _ _ _ _ _ _ _ _ _ _ _ _ _ _ _ _ _ _ _ _ _ _ _ _ _ _ _ _ _ _ _ _ _ _ _ _ _ _ _ _ _ _ _ _ _ _ _ _ _ _ _ _ _ _ _ _ _ _ _ _ _ _ _ _ _ _ _ _ _ _ _ _ _ _ _ _ _ _ _ _ _ _ _ _ _ _ _ _ _ _ _ _ _ _ _ _ _ _ _ _ _ _ _ _ _ _ _ _ _ _ _ _ _ _ _ _ _ _ _ _ _ _ _ _ _ _ _ _ _ _ _ _ _ _ _ _ _ _ _ _ _ _ _ _ _ _ _ _ _ _ _ _ _ _ _ _ _ _ _ _ _ _ _ _ _ _ _ _ _ _ _ ?_
          intro y46 y47 y48 y49 y50 y51 y52 y53 y54 y55 y56 y57 y58 y59 y60 y61 y62 y63 y64 y65 y66 y67 y68 y69 y70 y71 y72 y73 y74 y75 y76 y77 y78 y79 w' hb
          go_wp2
          go_roundw
          case rel => exact ⟨j + 1, by go_num, by omega, hb⟩
          case measure => simp [intOf]; omega
        · have hj5 : ¬ (j : Int) < 5 := by omega
          have HBo : Hid (Below w1.heap.size w1 wo) := B5.out.trans (HB.out.mono B5.out.size)
          clear hlt hj C5 HAL HDR P5 E5 B5 HB
          go_wp2
          obtain ⟨r2, hr2⟩ : ∃ r, wo.heap.size = r := ⟨_, rfl⟩
          obtain ⟨w7, hw7⟩ : ∃ w7, wo.alloc (.cells #[.int .u8 6, .int .u8 4, .int .u8 9, .int .u8 10, .int .u8 9, .int .u8 11, .int .u8 10, .int .u8 9] 44) = w7 := ⟨_, rfl⟩
          have B7 : Hid (Below w1.heap.size w1 w7) := by unfold Hid; rw [← hw7]; exact HBo.out.alloc HBo.out.size _
          have F7 : Hid (w7.heap[r2]? = some (.cells #[.int .u8 6, .int .u8 4, .int .u8 9, .int .u8 10, .int .u8 9, .int .u8 11, .int .u8 10, .int .u8 9] 44)) := by unfold Hid; rw [← hw7, ← hr2]; exact heap_alloc_new _ _
          have P7 : Hid (Calc w7 w.heap.size W) := HP.out.below B7.out HP.out.lt
          have E7 : Hid (OpEnv w7) := HE1.out.below B7.out
          have C7 : Hid (∀ i, i < 4 → ∀ W', Hid (Below w7.heap.size w7 W') → W'.cell? ⟨r2, i * 2, none⟩ = some (.int .u8 (overA i : Nat)) ∧ W'.cell? ⟨r2, i * 2 + 1, none⟩ = some (.int .u8 (overB i : Nat))) := fun i hi W' hW' => by
            have hlt : r2 < w7.heap.size := (Array.getElem?_eq_some_iff.1 F7.out).1
            have := (hW'.out.block r2 hlt).trans F7.out
            unfold World.cell?
            rw [this]
            rcases (show i = 0 ∨ i = 1 ∨ i = 2 ∨ i = 3 by omega) with rfl | rfl | rfl | rfl <;> exact ⟨rfl, rfl⟩
          have HAL : Hid (∀ W' o, Hid (Below w7.heap.size w7 W') → Hid (Below w7.heap.size w7 (W'.alloc o))) := fun W' o hW' => hW'.out.alloc hW'.out.size o
          have HDR : Hid (∀ W', Hid (Below w7.heap.size w7 W') → Hid (Below w7.heap.size w7 W'.drew)) := fun W' hW' => hW'.out.drew
          have hb7 : Hid (Below w7.heap.size w7 w7) := Below.refl _ _
          rw [hw7, hr2]
          clear hw7 hr2 F7 HBo
          go_loopw [14] (fun i wr => ∃ j : Nat, i = .int .i64 j ∧ j ≤ 4 ∧ Hid (Below w7.heap.size w7 wr)) (fun i _ => 4 - (intOf i).toNat)
          case atStart => exact ⟨0, rfl, by omega, hb7⟩
          case round =>
            obtain ⟨wp, rfl⟩ : ∃ wp : World, wp = wr := ⟨wr, rfl⟩
            obtain ⟨i, rfl, hi, HB⟩ := hrel
            clear hb7
            by_cases hlt : i < 4
            · have hi1 : (i : Int) < 4 := by omega
              have hi0 : (0 : Int) ≤ (i : Int) := by omega
              obtain ⟨oa1, oa2, ob1, ob2⟩ := over_ok hlt
              have hov := vv_over H1.out x y z i hlt
              have ci := C7.out i hlt
              obtain ⟨a, ha⟩ : ∃ a, overA i = a := ⟨_, rfl⟩
              obtain ⟨b, hb⟩ : ∃ a, overB i = a := ⟨_, rfl⟩
              rw [ha] at oa1 oa2 hov ci
              rw [hb] at ob1 ob2 hov ci
              obtain ⟨P, eP⟩ : ∃ P, vv W b y z 0 = P := ⟨_, rfl⟩
              obtain ⟨V, eV⟩ : ∃ V, vv W a x P 0 = V := ⟨_, rfl⟩
              obtain ⟨Q, eQ⟩ : ∃ Q, vv W a x y 0 = Q := ⟨_, rfl⟩
              obtain ⟨R, eR⟩ : ∃ R, vv W a x z 0 = R := ⟨_, rfl⟩
              rw [eP, eV, eQ, eR] at hov
              have gP : P < 18446744073709551616 := by rw [← eP]; exact HG.out _ _ _ _
              have gQ : Q < 18446744073709551616 := by rw [← eQ]; exact HG.out _ _ _ _
              have gR : R < 18446744073709551616 := by rw [← eR]; exact HG.out _ _ _ _
              have A1 : Hid (∀ W' g, Hid (Below w7.heap.size w7 W') → NumsR W' (some ⟨g, 0, none⟩) [y, z] → Calls Tryd.prog 25 #[.pointer (some ⟨w.heap.size, 0, none⟩), .int .u8 (b : Int), .slice (some ⟨g, 0, none⟩) 2 2] W' fun e w' => e = .returned (.int .u64 (P : Int)) ∧ Hid (Below w7.heap.size w7 w') ∧ Step W' w') := of_R H1.out H.out P7.out E7.out ob1 ob2 LY.out LZ.out eP
              have A2 : Hid (∀ W' g, Hid (Below w7.heap.size w7 W') → NumsR W' (some ⟨g, 0, none⟩) [x, P] → Calls Tryd.prog 25 #[.pointer (some ⟨w.heap.size, 0, none⟩), .int .u8 (a : Int), .slice (some ⟨g, 0, none⟩) 2 2] W' fun e w' => e = .returned (.int .u64 (V : Int)) ∧ Hid (Below w7.heap.size w7 w') ∧ Step W' w') := of_R H1.out H.out P7.out E7.out oa1 oa2 LX.out gP eV
              have A3 : Hid (∀ W' g, Hid (Below w7.heap.size w7 W') → NumsR W' (some ⟨g, 0, none⟩) [x, y] → Calls Tryd.prog 25 #[.pointer (some ⟨w.heap.size, 0, none⟩), .int .u8 (a : Int), .slice (some ⟨g, 0, none⟩) 2 2] W' fun e w' => e = .returned (.int .u64 (Q : Int)) ∧ Hid (Below w7.heap.size w7 w') ∧ Step W' w') := of_R H1.out H.out P7.out E7.out oa1 oa2 LX.out LY.out eQ
              have A4 : Hid (∀ W' g, Hid (Below w7.heap.size w7 W') → NumsR W' (some ⟨g, 0, none⟩) [x, z] → Calls Tryd.prog 25 #[.pointer (some ⟨w.heap.size, 0, none⟩), .int .u8 (a : Int), .slice (some ⟨g, 0, none⟩) 2 2] W' fun e w' => e = .returned (.int .u64 (R : Int)) ∧ Hid (Below w7.heap.size w7 w') ∧ Step W' w') := of_R H1.out H.out P7.out E7.out oa1 oa2 LX.out LZ.out eR
              have A5 : Hid (∀ W' g, Hid (Below w7.heap.size w7 W') → NumsR W' (some ⟨g, 0, none⟩) [Q, R] → Calls Tryd.prog 25 #[.pointer (some ⟨w.heap.size, 0, none⟩), .int .u8 (b : Int), .slice (some ⟨g, 0, none⟩) 2 2] W' fun e w' => e = .returned (.int .u64 (V : Int)) ∧ Hid (Below w7.heap.size w7 w') ∧ Step W' w') := of_R H1.out H.out P7.out E7.out ob1 ob2 gQ gR hov.symm
              have HH : Hid (∀ W', Hid (Below w7.heap.size w7 W') → W'.cell? ⟨r2, i * 2, none⟩ = some (.int .u8 (a : Int)) ∧ W'.cell? ⟨r2, i * 2 + 1, none⟩ = some (.int .u8 (b : Int)) ∧ Hid (Below w7.heap.size w7 W')) := fun W' hW' => ⟨(ci W' hW').1, (ci W' hW').2, hW'⟩
              have HD : Hid (Below w7.heap.size w7 wp.drew) := HB.out.drew
              have CO := HB
              clear oa1 oa2 ob1 ob2 hov ci ha hb eP eQ eR eV gP gQ gR HB
              go_wp2
              refine ring_over (x := x) (y := y) (z := z) (P := P) (V := V) (Q9 := Q) (R := R) CO hi1 hi0 HH A1 A2 A3 A4 A5 _ _ _ _ _ _ _ _ _ _ _ _ _ _ _ _ _ _ _ _ _ _ _ _ _ _ _ _ _ _ _ _ _ _ _ _ _ _ _ _ _ _ _ _ _ _ _ _ _ _ _ _ _ _ _ _ _ _ _ _ _ _ _ _ _ _ _ _ _ _ _ _ _ _ _ _ _ _ _ _ _ _ _ _ _ _ _ _ _ _ _ _ _ _ _ _ _ _ _ _ _ _ _ _ _ _ _ _ _ _ _ _ _ _ _ _ _ _ _ _ _ _ _ _ _ _ _ _ _ _ _ _ _ _ _ _ _ _ _ _ _ _ _ _ _ _ _ _ _ _ _ _ _ _ _ _ _ _ _ _ _ _ _ _ _ _ _ _ _ _ _ _ _ _ _ _ _ ?_
              intro y92 y93 y94 y95 y96 y97 y98 y99 y100 y101 y102 y103 y104 y105 y106 y107 y108 y109 y110 y111 y112 y113 y114 y115 y116 y117 y118 y119 y120 y121 y122 y123 y124 y125 y126 y127 y128 y129 y130 y131 y132 y133 y134 y135 y136 y137 y138 w' hb
              go_wp2
              go_roundw
              case rel => exact ⟨i + 1, by go_num, by omega, hb⟩
              case measure => simp [intOf]; omega
            · have hi4 : ¬ (i : Int) < 4 := by omega
              have hb7 : Hid (Below w7.heap.size w7 wp) := HB
              have h1 := H1.out
              have h := H.out
              have hp7 := P7.out
              have he7 := E7.out
              have lx := LX.out
              obtain ⟨t, et⟩ : ∃ t, x % 2 ^ W = t := ⟨_, rfl⟩
              have T1 : Hid (∀ W', Hid (Below w7.heap.size w7 W') → Calls Tryd.prog 26 #[.pointer (some ⟨w.heap.size, 0, none⟩), .int .u64 (x : Int)] W' fun e w' => e = .returned (.int .u64 (t : Int)) ∧ Hid (Below w7.heap.size w7 w') ∧ w'.cell? ⟨w.heap.size, 1, none⟩ = some (.bool false) ∧ w'.cell? ⟨w.heap.size, 0, none⟩ = some (.int .i64 (W : Int))) :=
                trim_K h1 h hp7 (v := x) (by omega) (et)
              have K1 : Hid (∀ W', Hid (Below w7.heap.size w7 W') → Calls Tryd.prog 25 #[.pointer (some ⟨w.heap.size, 0, none⟩), .int .u8 4, .slice (some ⟨W'.heap.size, 0, none⟩) 2 2] (W'.alloc (.cells #[.int .u64 (x : Int), .int .u64 0] 24)) fun e w' => e = .returned (.int .u64 (t : Int)) ∧ Hid (Below w7.heap.size w7 w') ∧ w'.cell? ⟨w.heap.size, 1, none⟩ = some (.bool false) ∧ w'.cell? ⟨w.heap.size, 0, none⟩ = some (.int .i64 (W : Int))) :=
                of_K h1 h hp7 he7 (o := 4) (ns := [x, 0]) (l := 2) (r := t) (by decide) rfl rfl (by simp; omega) (by show vv W 4 x 0 0 = t; rw [vv_add0 h1, et]) (by simp)
              have K2 : Hid (∀ W', Hid (Below w7.heap.size w7 W') → Calls Tryd.prog 25 #[.pointer (some ⟨w.heap.size, 0, none⟩), .int .u8 6, .slice (some ⟨W'.heap.size, 0, none⟩) 2 2] (W'.alloc (.cells #[.int .u64 (x : Int), .int .u64 1] 24)) fun e w' => e = .returned (.int .u64 (t : Int)) ∧ Hid (Below w7.heap.size w7 w') ∧ w'.cell? ⟨w.heap.size, 1, none⟩ = some (.bool false) ∧ w'.cell? ⟨w.heap.size, 0, none⟩ = some (.int .i64 (W : Int))) :=
                of_K h1 h hp7 he7 (o := 6) (ns := [x, 1]) (l := 2) (r := t) (by decide) rfl rfl (by simp; omega) (by show vv W 6 x 1 0 = t; rw [vv_mul1 h1, et]) (by simp)
              have K3 : Hid (∀ W', Hid (Below w7.heap.size w7 W') → Calls Tryd.prog 25 #[.pointer (some ⟨w.heap.size, 0, none⟩), .int .u8 11, .slice (some ⟨W'.heap.size, 0, none⟩) 2 2] (W'.alloc (.cells #[.int .u64 (x : Int), .int .u64 (x : Int)] 24)) fun e w' => e = .returned (.int .u64 0) ∧ Hid (Below w7.heap.size w7 w') ∧ w'.cell? ⟨w.heap.size, 1, none⟩ = some (.bool false) ∧ w'.cell? ⟨w.heap.size, 0, none⟩ = some (.int .i64 (W : Int))) :=
                of_K h1 h hp7 he7 (o := 11) (ns := [x, x]) (l := 2) (r := 0) (by decide) rfl rfl (by simp; omega) (by show vv W 11 x x 0 = 0; exact vv_xor_self h1 x) (by simp)
              have K4 : Hid (∀ W', Hid (Below w7.heap.size w7 W') → Calls Tryd.prog 25 #[.pointer (some ⟨w.heap.size, 0, none⟩), .int .u8 10, .slice (some ⟨W'.heap.size, 0, none⟩) 2 2] (W'.alloc (.cells #[.int .u64 (x : Int), .int .u64 0] 24)) fun e w' => e = .returned (.int .u64 (t : Int)) ∧ Hid (Below w7.heap.size w7 w') ∧ w'.cell? ⟨w.heap.size, 1, none⟩ = some (.bool false) ∧ w'.cell? ⟨w.heap.size, 0, none⟩ = some (.int .i64 (W : Int))) :=
                of_K h1 h hp7 he7 (o := 10) (ns := [x, 0]) (l := 2) (r := t) (by decide) rfl rfl (by simp; omega) (by show vv W 10 x 0 0 = t; rw [vv_or0 h1, et]) (by simp)
              have KM : Hid (∀ W', Hid (Below w7.heap.size w7 W') → Calls Tryd.prog 12 #[] W' fun e w' => e = .returned (.bool true) ∧ Hid (Below w7.heap.size w7 w')) := known_K he7
              have HBF : Hid (Below w.heap.size w w7) := HB1.out.trans (B7.out.mono HB1.out.size)
              clear KN P7 E7 B7 C7 HAL HDR hlt hi HB h1 h hp7 he7 lx et
              go_wp2_with (first | (go_at_call 25; with_reducible refine (K1.out _ (by assumption)).mono ?_; rintro e w' ⟨rfl, hb, hc, hd⟩) | (go_at_call 25; with_reducible refine (K2.out _ (by assumption)).mono ?_; rintro e w' ⟨rfl, hb, hc, hd⟩) | (go_at_call 25; with_reducible refine (K3.out _ (by assumption)).mono ?_; rintro e w' ⟨rfl, hb, hc, hd⟩) | (go_at_call 25; with_reducible refine (K4.out _ (by assumption)).mono ?_; rintro e w' ⟨rfl, hb, hc, hd⟩) | (go_at_call 26; with_reducible refine (T1.out _ (by assumption)).mono ?_; rintro e w' ⟨rfl, hb, hc, hd⟩) | (go_at_call 12; with_reducible refine (KM.out _ (by assumption)).mono ?_; rintro e w' ⟨rfl, hb⟩))
              go_ret
              exact ⟨rfl, HBF.out.trans (Below.mono (Hid.out (p := Below w7.heap.size w7 _) (by assumption)) HBF.out.size)⟩
end Go.Proofs.YtldcekejbnhloaaDoor
