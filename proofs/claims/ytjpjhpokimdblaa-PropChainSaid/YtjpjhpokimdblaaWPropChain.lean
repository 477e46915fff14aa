/-
  PropChain: a long chain of clauses is gone through to its end, in both directions.
-/
import Derived.Test.YtjpjhpokimdblaaPropY
namespace Go.Proofs.Ytjpjhpokimdblaa
open Go.RowKit Go.Lib
open Go.RowKit (Below)

theorem two_ints {x y : Int} : ∀ u ∈ [Value.int .i64 x, .int .i64 y], u.oneCell' = true := by
  intro u hu; simp at hu; rcases hu with rfl | rfl <;> rfl

set_option maxRecDepth 100000 in
set_option maxHeartbeats 8000000 in
theorem propChain_walk (w : World) (n : Int) (hn : (Lit.int .u16 n).wf = true) (back : Bool) :
    Calls Try.prog 6 #[.int .u16 n, .bool back] w fun e w' => e = .returned (.bool true) ∧ Below w.heap.size w w' := by
  obtain ⟨hn0, hn1⟩ := u16_range hn
  obtain ⟨K, hK⟩ : ∃ K : Nat, n % 2000 + 1 = (K : Int) := ⟨(n % 2000 + 1).toNat, by omega⟩
  have hK1 : 1 ≤ K := by omega
  have hK2 : K ≤ 2000 := by omega
  obtain ⟨m, hm⟩ : ∃ m, m + 1 = K := ⟨K - 1, by omega⟩
  have hwn : IntKind.i64.wrap n = n := IntWalk.i64_in _ (by omega)
  have hnt : n.tmod 2000 = (m : Int) := by rw [Int.tmod_eq_emod_of_nonneg hn0]; omega
  have hne : n % 2000 = (m : Int) := by omega
  have hwk : IntKind.i64.wrap (1 + ↑m) = (K : Int) := by rw [IntWalk.i64_in _ (by omega)]; omega
  have HM := Lib.hid hm
  have HT0 := Lib.hid (Two.new w (.int .i64 K) (.slice none 0 0))
  have HB0 := Lib.hid (boxed w (.cells #[.int .i64 K, .slice none 0 0] 26))
  obtain ⟨i0, hi, hz0, hz1, hz2⟩ := info_parts Try.info3
  obtain ⟨j0, hj, hy0, hy1, hy2⟩ := info_parts Try.info23
  clear hn hK hm hn0 hn1
  go_enter Try.func6, Try.ntmps6
  go_wp2
  clear hwn hnt hne hwk
  go_loopw [7] (fun i wr => ∃ (j : Nat) (cv : Value), i = .int .i64 ((j : Int) + 1) ∧ j ≤ m ∧ Hid (Two wr w.heap.size (.int .i64 K) cv) ∧ Hid (Built wr (w.heap.size + 1) cv (chainL j)) ∧ Hid (Below w.heap.size w wr)) (fun i _ => K - (intOf i).toNat)
  case atStart => exact ⟨0, .slice none 0 0, rfl, Nat.zero_le _, HT0, Built.nil _ _, HB0⟩
  case round =>
    obtain ⟨j, cv, rfl, hjm, HT, HBT, HB⟩ := hrel
    have hmK := HM.out
    by_cases hlt : j < m
    · have hbt := HBT.out.below (boxed wr (.cells #[.int .i64 (-((j : Int) + 1)), .int .i64 ((j : Int) + 1 + 1)] 3))
      obtain ⟨vs, h1, h2⟩ := hbt
      have HH1 := Lib.hid h1
      have HH2 := Lib.hid h2
      have HOFF : Hid (∀ g, cv.ownBlock = some g → w.heap.size + 1 ≤ g ∧ g < wr.heap.size) := fun g hg => by
        obtain ⟨us, h3⟩ := HBT.out.len
        exact h3.lt g hg
      have c1 := HT.out.c1
      have hsz : w.heap.size < wr.heap.size := HT.out.lt
      have HLEN := Lib.hid (chainL_len j)
      have hjK : (j : Int) + 1 < (K : Int) := by omega
      have hj2 : j ≤ 2000 := by omega
      have HX : Hid (∀ w1, ((wr.alloc (.cells #[.int .i64 (-((j : Int) + 1)), .int .i64 ((j : Int) + 1 + 1)] 3)).alloc (.cells #[.slice (some ⟨wr.heap.size, 0, none⟩) 2 2] 23)).grownBy w1 cv.ownBlock → Two w1 w.heap.size (.int .i64 K) cv) := fun w1 hg =>
        ((HT.out.alloc _).alloc _).grown hg fun e => by have := HOFF.out _ e; omega
      have HMK := Lib.hid hmK
      clear h1 h2 hmK
      go_wp2_with (at_builtin; refine wpList_append_own_at _ (by rfl) _ _ 24 (by rfl) (w.heap.size + 1) 23 j0 (.slice none 0 0) 1 24 Try.underlying24 hj hy0 hy1 hy2 rfl (by decide) cv (chainL j).length vs (by rfl) (World.ownsRow.alloc HH1.out _) ⟨wr.heap.size + 1, 0, none⟩ 1 1 [.slice (some ⟨wr.heap.size, 0, none⟩) 2 2] (by rfl) (by rfl) (one_new (by simp)) one_slice ?c3 ?c4 ?c5 ?_)
      case c3 => rw [chainL_len]; unfold maxLen; omega
      case c4 => rw [chainL_len]; omega
      case c5 => simp; omega
      intro v' w1 hown hg _ hat
      obtain ⟨g9, cap9, rfl⟩ := Go.Joins.ownsRow_form hown (by omega)
      obtain ⟨v', hv'⟩ : ∃ v', Value.slice (some ⟨g9, 0, none⟩) ((chainL j).length + 1) cap9 = v' := ⟨_, rfl⟩
      rw [hv'] at hown hat
      have hTW := HX.out w1 hg
      have hbt2 : Built w1 (w.heap.size + 1) v' (chainL (j + 1)) := by
        rw [chainL_snoc]
        refine Built.more (w := wr.alloc (.cells #[.int .i64 (-((j : Int) + 1)), .int .i64 ((j : Int) + 1 + 1)] 3)) (w0 := (wr.alloc (.cells #[.int .i64 (-((j : Int) + 1)), .int .i64 ((j : Int) + 1 + 1)] 3)).alloc (.cells #[.slice (some ⟨wr.heap.size, 0, none⟩) 2 2] 23)) (a := some ⟨wr.heap.size, 0, none⟩) (c := 2) (z := [-((j : Int) + 1), (j : Int) + 1 + 1]) HH2.out HH1.out (boxed _ _) hg (by simpa using hat) hown (IntsR.lit _ _ _ _ rfl rfl) (fun p hp => ?_) ⟨by simp, by decide⟩
        cases hp
        exact ⟨by simp; omega, by simp, fun e => by have := HOFF.out _ e; simp at this⟩
      have hbel : Below w.heap.size w w1 := by
        refine ((HB.out.alloc HB.out.size _).alloc (by simp; omega) _).grown hg (by simp; omega) fun g e => by have := HOFF.out g e; omega
      have HT2 := Lib.hid (hTW.set1 v')
      have HBT2 := Lib.hid (hbt2.setCell (p := ⟨w.heap.size, 1, none⟩) (by simp) v')
      have HB2 := Lib.hid (hbel.setCell (p := ⟨w.heap.size, 1, none⟩) (Nat.le_refl _) v')
      have c1w := hTW.c1
      have f1w := hTW.free 1
      rw [← hv'] at HT2 HBT2 HB2
      clear hTW hbt2 hbel hown hg hat c1 HX HOFF hv'
      go_wp2
      go_roundw
      case rel => exact ⟨j + 1, _, by go_num, by omega, HT2, HBT2, HB2⟩
      case measure => simp [intOf]; omega
    · have hjm' : j = m := by omega
      rw [hjm'] at HBT
      obtain ⟨fa, fc, rfl, hfl, _, _, hfr⟩ := HBT.out.rows
      have hlen := chainL_len m
      rw [hlen] at HT hfl
      have HR := Lib.hid hfr
      have hsz := HT.out.lt
      have hge : ¬ ((j : Int) + 1 < (K : Int)) := by omega
      clear hfr hjm' hlt hjm
      have HM2 : Hid (m + 1 = K) := hmK
      have hm2000 : m ≤ 2000 := by omega
      have hKpos : 1 ≤ K := by omega
      clear hmK
      obtain ⟨wo, rfl⟩ : ∃ wo : World, wo = wr := ⟨_, rfl⟩
      clear HBT
      cases back
      · go_wp2
        go_loopw [8, 10] (fun sv i wr => ∃ (q : Nat), i = .int .i64 ((q : Int) + 1) ∧ q ≤ K ∧ Hid (Own wr wo.heap.size sv (upTo q)) ∧ Hid (Below wo.heap.size wo wr)) (fun _ i _ => K + 1 - (intOf i).toNat)
        case atStart => exact ⟨0, rfl, Nat.zero_le _, Own.nil _ _, Below.refl _ _⟩
        case round =>
          obtain ⟨q, rfl, hq, HO, HB5⟩ := hrel
          have hs5 := HB5.out.size
          have hq2 : q ≤ 2000 := by omega
          by_cases hqk : q < K
          · have hqK : (q : Int) + 1 ≤ (K : Int) := by omega
            have HLQ := Lib.hid (upTo_len q)
            go_wp2_with (at_builtin; refine wpList_append_own _ (by rfl) _ _ 23 (by rfl) wo.heap.size 3 i0 (.int .i64 0) 1 8 Try.underlying23 hi hz0 hz1 hz2 rfl (by decide) _ (upTo q).length ((upTo q).map (Value.int .i64)) (by rfl) (World.ownsRow.alloc HO.out _) ⟨wr.heap.size, 0, none⟩ 1 1 [.int .i64 ((q : Int) + 1)] (by rfl) (by rfl) (one_new (by simp)) one_int ?c3 ?c4 ?c5 ?_)
            case c3 => rw [HLQ.out]; unfold maxLen; omega
            case c4 => rw [HLQ.out]; omega
            case c5 => simp; omega
            intro v' w2 hown' hgrow _
            have R1 := Lib.hid (Own.of (zs := upTo (q + 1)) hown' (by rw [upTo_snoc]; simp) (by rw [upTo_snoc]; simp))
            have R2 := Lib.hid (Own.below HO.out HB5.out hs5 hgrow)
            clear hown' hgrow HO HB5
            go_wp2
            go_roundw
            case rel => exact ⟨q + 1, by go_num, by omega, R1, R2⟩
            case measure => simp [intOf]; omega
          · have hqe : q = K := by omega
            rw [hqe] at HO
            obtain ⟨sa, sc, rfl, hSI⟩ := HO.out.reads
            have hgt : ¬ ((q : Int) + 1 ≤ (K : Int)) := by omega
            have HS := Lib.hid hSI
            have HT5 := Lib.hid (HT.out.below HB5.out hsz)
            have HR5 := Lib.hid (HR.out.below HB5.out)
            have HB6 := Lib.hid (HB.out.trans (HB5.out.mono HB.out.size))
            have c0 := HT5.out.c0
            have c1 := HT5.out.c1
            have hg5 : w.heap.size < wr.heap.size := HT5.out.lt
            have HU := Lib.hid (unitsLaw_true (n := K) (zss := chainL m) (xs := [1]) (us := upTo K) fa fc sa sc (some ⟨wr.heap.size, 0, none⟩) 1 (wr.alloc (.cells #[.int .i64 (1)] 3)) (by omega) (by rw [chainL_len]; unfold maxLen; omega) (chain_all m) (HR5.out.alloc _) (HS.out.alloc _) (IntsR.lit _ _ _ _ rfl rfl) (show (1 : Nat) ≤ maxLen from by decide) (chain_rng (by omega)) (fun x hx => by simp at hx; subst hx; constructor <;> omega) (chain_check HM2.out hK2 (fun x hx => by simp at hx; subst hx; omega)) (chain_up HM2.out) (l := m) (k := (upTo K).length) (kx := 1) (chainL_len m) rfl rfl (by rw [upTo_len]; unfold maxLen; omega))
            clear hSI HO hqk hq hqe HB5
            go_wp2_with fail
            refine HU.out.mono ?_
            rintro e w6 ⟨rfl, hB7⟩
            have HB7 := Lib.hid ((HB6.out.alloc HB6.out.size _).trans (hB7.mono (by have := HB6.out.size; simp; omega)))
            have HT7 := Lib.hid ((HT5.out.alloc (.cells #[.int .i64 (1)] 3)).below hB7 (by simp; omega))
            have HR7 := Lib.hid ((HR5.out.alloc (.cells #[.int .i64 (1)] 3)).below hB7)
            have c2 := HT7.out.c0
            have c3 := HT7.out.c1
            clear hB7 c0 c1 HU
            by_cases hK1' : K = 1
            · have e1 : ((K : Int) == 1) = true := by rw [beq_iff_eq]; omega
              clear hK1'
              go_wp2_with fail
              refine (knownP_any _).mono ?_
              rintro e w8 ⟨rfl, hB8⟩
              have HB8 := Lib.hid (HB7.out.trans (hB8.mono HB7.out.size))
              clear hB8
              go_wp2
              go_ret
              exact ⟨rfl, HB8.out⟩
            · have e1 : ((K : Int) == 1) = false := by rw [beq_eq_false_iff_ne]; omega
              have HFA := Lib.hid (failsLaw_true (n := K) (zss := chainL m) (xs := [1, -(K : Int)]) fa fc (some ⟨w6.heap.size, 0, none⟩) 2 (w6.alloc (.cells #[.int .i64 1, .int .i64 (-(K : Int))] 3)) (by omega) (by rw [chainL_len]; unfold maxLen; omega) (chain_all m) (HR7.out.alloc _) (IntsR.lit _ _ _ _ rfl rfl) (show (2 : Nat) ≤ maxLen from by decide) (chain_rng (by omega)) (fun x hx => by simp at hx; rcases hx with rfl | rfl <;> constructor <;> omega) (chain_check HM2.out hK2 (fun x hx => by simp at hx; rcases hx with rfl | rfl <;> omega)) (chain_fails HM2.out (by omega)) (l := m) (kx := 2) (chainL_len m) rfl)
              clear hK1'
              go_wp2_with fail
              refine HFA.out.mono ?_
              rintro e w7 ⟨rfl, hB8⟩
              have HB8 := Lib.hid ((HB7.out.alloc HB7.out.size _).trans (hB8.mono (by have := HB7.out.size; simp; omega)))
              clear hB8 c2 c3 HFA
              go_wp2_with fail
              refine (knownP_any _).mono ?_
              rintro e w8 ⟨rfl, hB9⟩
              have HB9 := Lib.hid (HB8.out.trans (hB9.mono HB8.out.size))
              clear hB9
              go_wp2
              go_ret
              exact ⟨rfl, HB9.out⟩
      · go_wp2
        go_loopw [8, 10] (fun sv i wr => ∃ (q : Nat), i = .int .i64 ((q : Int) + 1) ∧ q ≤ K ∧ Hid (Own wr wo.heap.size sv (downTo q)) ∧ Hid (Below wo.heap.size wo wr)) (fun _ i _ => K + 1 - (intOf i).toNat)
        case atStart => exact ⟨0, rfl, Nat.zero_le _, Own.nil _ _, Below.refl _ _⟩
        case round =>
          obtain ⟨q, rfl, hq, HO, HB5⟩ := hrel
          have hs5 := HB5.out.size
          have hq2 : q ≤ 2000 := by omega
          by_cases hqk : q < K
          · have hqK : (q : Int) + 1 ≤ (K : Int) := by omega
            have HLQ := Lib.hid (downTo_len q)
            go_wp2_with (at_builtin; refine wpList_append_own _ (by rfl) _ _ 23 (by rfl) wo.heap.size 3 i0 (.int .i64 0) 1 8 Try.underlying23 hi hz0 hz1 hz2 rfl (by decide) _ (downTo q).length ((downTo q).map (Value.int .i64)) (by rfl) (World.ownsRow.alloc HO.out _) ⟨wr.heap.size, 0, none⟩ 1 1 [.int .i64 (-((q : Int) + 1))] (by rfl) (by rfl) (one_new (by simp)) one_int ?c3 ?c4 ?c5 ?_)
            case c3 => rw [HLQ.out]; unfold maxLen; omega
            case c4 => rw [HLQ.out]; omega
            case c5 => simp; omega
            intro v' w2 hown' hgrow _
            have R1 := Lib.hid (Own.of (zs := downTo (q + 1)) hown' (by rw [downTo_snoc]; simp) (by rw [downTo_snoc]; simp))
            have R2 := Lib.hid (Own.below HO.out HB5.out hs5 hgrow)
            clear hown' hgrow HO HB5
            go_wp2
            go_roundw
            case rel => exact ⟨q + 1, by go_num, by omega, R1, R2⟩
            case measure => simp [intOf]; omega
          · have hqe : q = K := by omega
            rw [hqe] at HO
            obtain ⟨sa, sc, rfl, hSI⟩ := HO.out.reads
            have hgt : ¬ ((q : Int) + 1 ≤ (K : Int)) := by omega
            have HS := Lib.hid hSI
            have HT5 := Lib.hid (HT.out.below HB5.out hsz)
            have HR5 := Lib.hid (HR.out.below HB5.out)
            have HB6 := Lib.hid (HB.out.trans (HB5.out.mono HB.out.size))
            have c0 := HT5.out.c0
            have c1 := HT5.out.c1
            have hg5 : w.heap.size < wr.heap.size := HT5.out.lt
            have HU := Lib.hid (unitsLaw_true (n := K) (zss := chainL m) (xs := [-(K : Int)]) (us := downTo K) fa fc sa sc (some ⟨wr.heap.size, 0, none⟩) 1 (wr.alloc (.cells #[.int .i64 (-(K : Int))] 3)) (by omega) (by rw [chainL_len]; unfold maxLen; omega) (chain_all m) (HR5.out.alloc _) (HS.out.alloc _) (IntsR.lit _ _ _ _ rfl rfl) (show (1 : Nat) ≤ maxLen from by decide) (chain_rng (by omega)) (fun x hx => by simp at hx; subst hx; constructor <;> omega) (chain_check HM2.out hK2 (fun x hx => by simp at hx; subst hx; omega)) (chain_down HM2.out) (l := m) (k := (downTo K).length) (kx := 1) (chainL_len m) rfl rfl (by rw [downTo_len]; unfold maxLen; omega))
            clear hSI HO hqk hq hqe HB5
            go_wp2_with fail
            refine HU.out.mono ?_
            rintro e w6 ⟨rfl, hB7⟩
            have HB7 := Lib.hid ((HB6.out.alloc HB6.out.size _).trans (hB7.mono (by have := HB6.out.size; simp; omega)))
            have HT7 := Lib.hid ((HT5.out.alloc (.cells #[.int .i64 (-(K : Int))] 3)).below hB7 (by simp; omega))
            have HR7 := Lib.hid ((HR5.out.alloc (.cells #[.int .i64 (-(K : Int))] 3)).below hB7)
            have c2 := HT7.out.c0
            have c3 := HT7.out.c1
            clear hB7 c0 c1 HU
            by_cases hK1' : K = 1
            · have e1 : ((K : Int) == 1) = true := by rw [beq_iff_eq]; omega
              clear hK1'
              go_wp2_with fail
              refine (knownP_any _).mono ?_
              rintro e w8 ⟨rfl, hB8⟩
              have HB8 := Lib.hid (HB7.out.trans (hB8.mono HB7.out.size))
              clear hB8
              go_wp2
              go_ret
              exact ⟨rfl, HB8.out⟩
            · have e1 : ((K : Int) == 1) = false := by rw [beq_eq_false_iff_ne]; omega
              have HFA := Lib.hid (failsLaw_true (n := K) (zss := chainL m) (xs := [1, -(K : Int)]) fa fc (some ⟨w6.heap.size, 0, none⟩) 2 (w6.alloc (.cells #[.int .i64 1, .int .i64 (-(K : Int))] 3)) (by omega) (by rw [chainL_len]; unfold maxLen; omega) (chain_all m) (HR7.out.alloc _) (IntsR.lit _ _ _ _ rfl rfl) (show (2 : Nat) ≤ maxLen from by decide) (chain_rng (by omega)) (fun x hx => by simp at hx; rcases hx with rfl | rfl <;> constructor <;> omega) (chain_check HM2.out hK2 (fun x hx => by simp at hx; rcases hx with rfl | rfl <;> omega)) (chain_fails HM2.out (by omega)) (l := m) (kx := 2) (chainL_len m) rfl)
              clear hK1'
              go_wp2_with fail
              refine HFA.out.mono ?_
              rintro e w7 ⟨rfl, hB8⟩
              have HB8 := Lib.hid ((HB7.out.alloc HB7.out.size _).trans (hB8.mono (by have := HB7.out.size; simp; omega)))
              clear hB8 c2 c3 HFA
              go_wp2_with fail
              refine (knownP_any _).mono ?_
              rintro e w8 ⟨rfl, hB9⟩
              have HB9 := Lib.hid (HB8.out.trans (hB9.mono HB8.out.size))
              clear hB9
              go_wp2
              go_ret
              exact ⟨rfl, HB9.out⟩
end Go.Proofs.Ytjpjhpokimdblaa
