/-
  The reference's unit and propagate.
-/
import Derived.Test.YtbljkbdbiceokaaPropW
import Derived.BigQuiet
namespace Go.Proofs.Ytbljkbdbiceokaa
open Go.RowKit Go.Lib
open Go.RowKit (Below)

theorem unitR_step (ks : List Int) (last x : Int) (c : List Int) : unitR ks last (x :: c) = if -x ∈ ks ∨ x = last then unitR ks last c else if x ∈ ks ∨ last ≠ 0 then (0, true) else unitR ks x c := rfl

set_option maxRecDepth 100000 in
set_option maxHeartbeats 4000000 in
theorem refUnit_any (b : Nat) (ks : List Int) (a : Option Addr) (c : Nat) (z : List Int) (w : World) (hm : z.length ≤ maxLen) (hz : ∀ x ∈ z, -1048576 ≤ x ∧ x ≤ 1048576) (hM : KMap w b ks) (hI : IntsR w a z) {l : Int} {is : Bool} (hr : unitR ks 0 z = (l, is)) :
    Calls Try.prog 63 #[.map (some b), .slice a z.length c] w fun e w' => e = .returned (.tuple #[.int .i64 l, .bool is]) ∧ w' = w := by
  have HM := Lib.hid hM
  have HI := Lib.hid hI
  have HZ := Lib.hid hz
  have HR := Lib.hid hr
  unfold maxLen at hm
  clear hM hI hz hr
  go_enter Try.func63, Try.ntmps63
  go_wp2
  go_loopw [6, 7] (fun l' i wr => ∃ (k : Nat) (last : Int), l' = .int .i64 last ∧ i = .int .i64 k ∧ k ≤ z.length ∧ wr = w ∧ Hid (unitR ks last (z.drop k) = (l, is))) (fun _ i _ => z.length - (intOf i).toNat)
  case atStart => exact ⟨0, 0, rfl, rfl, Nat.zero_le _, rfl, by unfold Hid; rw [List.drop_zero]; exact HR.out⟩
  case round =>
    obtain ⟨k, last, rfl, rfl, hk, rfl, HD⟩ := hrel
    by_cases hlt : k < z.length
    · obtain ⟨bx, offx, x, rfl, hx, hcx⟩ := HI.out.at hlt
      obtain ⟨hx1, hx2⟩ := HZ.out x (List.mem_of_getElem? hx.out)
      have hwx : IntKind.i64.wrap (-x) = -x := IntWalk.i64_in _ (by omega)
      have hl1 := HM.out.look (x := -x) ⟨by omega, by omega⟩
      have hl2 := HM.out.look (x := x) ⟨by omega, by omega⟩
      have hd := HD.out
      have hdr : z.drop k = x :: z.drop (k + 1) := by
        obtain ⟨h1, h2⟩ := List.getElem?_eq_some_iff.1 hx.out
        rw [List.drop_eq_getElem_cons h1, h2]
      rw [hdr, unitR_step] at hd
      clear hdr hx hx1 hx2 HD
      by_cases h1 : -x ∈ ks
      · rw [if_pos (.inl h1)] at hd
        rw [decide_eq_true h1] at hl1
        have HD := Lib.hid hd
        clear hd h1 hl2
        go_wp2
        go_roundw
        case rel => exact ⟨k + 1, last, rfl, by go_num, by omega, trivial, HD⟩
        case measure => simp [intOf]; omega
      · rw [decide_eq_false h1] at hl1
        by_cases h2 : x = last
        · rw [if_pos (.inr h2)] at hd
          have HD := Lib.hid hd
          have e1 : (x == last) = true := by simp [h2]
          clear hd h1 hl2 h2
          go_wp2
          go_roundw
          case rel => exact ⟨k + 1, last, rfl, by go_num, by omega, trivial, HD⟩
          case measure => simp [intOf]; omega
        · rw [if_neg (fun h => h.elim h1 h2)] at hd
          have e1 : (x == last) = false := by simp [h2]
          by_cases h3 : x ∈ ks
          · rw [if_pos (.inl h3)] at hd
            rw [decide_eq_true h3] at hl2
            cases hd
            clear h1 h2 h3
            go_wp2
            go_ret2
            exact ⟨rfl, rfl⟩
          · rw [decide_eq_false h3] at hl2
            by_cases h4 : last = 0
            · subst h4
              rw [if_neg (fun h => h.elim h3 fun h => h rfl)] at hd
              have HD := Lib.hid hd
              clear hd h1 h2 h3
              go_wp2
              go_roundw
              case rel => exact ⟨k + 1, x, rfl, by go_num, by omega, trivial, HD⟩
              case measure => simp [intOf]; omega
            · rw [if_pos (.inr h4)] at hd
              have e2 : (last == 0) = false := by simp [h4]
              cases hd
              clear h1 h2 h3
              go_wp2
              go_ret2
              exact ⟨rfl, rfl⟩
    · have hd := HD.out
      rw [List.drop_eq_nil_of_le (by omega)] at hd
      unfold unitR at hd
      cases hd
      go_wp2
      go_ret2
      exact ⟨rfl, rfl⟩

theorem made_bools (w : World) : (Instr.makeMap 86 none).run Try.prog w = .ok (.map (some w.heap.size)) (w.alloc (.map #[] 0)) := by
  simp [Instr.makeMap]
theorem kBelow {w wr w' : World} {b : Nat} (h : Below w.heap.size w wr) (hg : wr.grownBy w' (some b)) (hb : w.heap.size ≤ b) : Below w.heap.size w w' := h.grown hg h.size (fun k hk => by injection hk with hk; omega)

set_option maxRecDepth 100000 in
set_option maxHeartbeats 4000000 in
theorem refPropagate_any {V : Nat} (hV : V ≤ 1048576) (a : Option Addr) (c : Nat) (F : List (List Int)) (xa : Option Addr) (xc : Nat) (A : List Int) (w : World) (hm : F.length ≤ maxLen) (hA : AllLen F) (hR : RowsR .i64 w a F) (hX : IntsR w xa A) (hxl : A.length ≤ maxLen)
    (hF : ∀ z ∈ F, ∀ x ∈ z, -(V : Int) ≤ x ∧ x ≤ V ∧ x ≠ 0) (hAr : ∀ x ∈ A, -(V : Int) ≤ x ∧ x ≤ V ∧ x ≠ 0) :
    Calls Try.prog 53 #[.slice a F.length c, .slice xa A.length xc] w fun e w' => Below w.heap.size w w' ∧ ((Fails F A ∧ e = .returned (.tuple #[.map none, .bool true])) ∨ ∃ mb ks, e = .returned (.tuple #[.map (some mb), .bool false]) ∧ KMap w' mb ks ∧ w.heap.size ≤ mb ∧ (∀ x, x ∈ ks ↔ Der F A x) ∧ ¬ Fails F A) := by
  have HR := Lib.hid hR
  have HX := Lib.hid hX
  have HF := Lib.hid hF
  have HAR := Lib.hid hAr
  have HA := Lib.hid hA
  have hmade := made_bools w
  have HM0 := Lib.hid (KMap.new w)
  have HB0 := Lib.hid (boxed w (.map #[] 0))
  unfold maxLen at hm hxl
  clear hR hX hF hAr hA
  go_enter Try.func53, Try.ntmps53
  go_wp2
  go_loopw [7] (fun i wr => ∃ (k : Nat) (ks : List Int), i = .int .i64 k ∧ k ≤ A.length ∧ Hid (KMap wr w.heap.size ks) ∧ Hid (Below w.heap.size w wr) ∧ Hid (KInv V F A ks) ∧ Hid (∀ (j : Nat) (x : Int), j < k → A[j]? = some x → x ∈ ks)) (fun i _ => A.length - (intOf i).toNat)
  case atStart => exact ⟨0, [], rfl, Nat.zero_le _, HM0, HB0, KInv.nil _ _ _, fun j x hj _ => absurd hj (Nat.not_lt_zero _)⟩
  case round =>
    obtain ⟨k, ks, rfl, hk, HM, HB, HK, HS⟩ := hrel
    clear HM0 HB0 hmade
    by_cases hlt : k < A.length
    · obtain ⟨bx, offx, x, rfl, hx, hcx⟩ := (HX.out.below HB.out).at hlt
      have hxm := List.mem_of_getElem? hx.out
      obtain ⟨hx1, hx2, hx0⟩ := HAR.out x hxm
      have hwx : IntKind.i64.wrap (-x) = -x := IntWalk.i64_in _ (by omega)
      have hl1 := HM.out.look (x := -x) ⟨by omega, by omega⟩
      by_cases h1 : -x ∈ ks
      · rw [decide_eq_true h1] at hl1
        have HFL : Hid (Fails F A) := .inr ⟨x, .assume hxm, HK.out.der _ h1⟩
        clear h1 hx hxm hx1 hx2 hx0
        go_wp2
        go_ret2
        exact ⟨HB.out, .inl ⟨HFL.out, rfl⟩⟩
      · rw [decide_eq_false h1] at hl1
        obtain ⟨w2, hrun, hM2, hg2⟩ := HM.out.put (by have := HK.out.len; have : maxLen = 9223372036854775807 := rfl; omega) (x := x) ⟨by omega, by omega⟩
        have HM2 := Lib.hid hM2
        have HB2 := Lib.hid (kBelow HB.out hg2 (Nat.le_refl _))
        have HK2 := Lib.hid (HK.out.ins (.assume hxm) h1 ⟨hx1, hx2, hx0⟩)
        have HS2 : Hid (∀ (j : Nat) (y : Int), j < k + 1 → A[j]? = some y → y ∈ insK ks x) := fun j y hj hy => by
          by_cases e : j = k
          · subst e; rw [hx.out] at hy; cases hy; exact mem_insK.2 (.inr rfl)
          · exact mem_insK.2 (.inl (HS.out j y (by omega) hy))
        clear hM2 hg2 h1 hx hxm hx1 hx2 hx0
        go_wp2
        go_roundw
        case rel => exact ⟨k + 1, _, by go_num, by omega, HM2, HB2, HK2, HS2⟩
        case measure => simp [intOf]; omega
    · have HAS : Hid (∀ x ∈ A, x ∈ ks) := fun x hx => by
        obtain ⟨j, hj⟩ := List.mem_iff_getElem?.1 hx
        exact HS.out j x (by have := (List.getElem?_eq_some_iff.1 hj).1; omega) hj
      clear HS
      go_wp2
      go_loopw [8] (fun bf wr => ∃ (p : Int) (ks : List Int), bf = .int .i64 p ∧ -1 ≤ p ∧ p ≤ ks.length ∧ Hid (KMap wr w.heap.size ks) ∧ Hid (Below w.heap.size w wr) ∧ Hid (KInv V F A ks) ∧ Hid (∀ x ∈ A, x ∈ ks) ∧ Hid (p < ks.length ∨ ∀ z ∈ F, DoneK ks z)) (fun bf _ => (2 * (V : Int) + 1 - intOf bf).toNat)
      case atStart => exact ⟨-1, ks, rfl, by omega, by omega, HM, HB, HK, HAS, .inl (by omega)⟩
      case round =>
        clear HM HB HK HAS hlt hk
        obtain ⟨p, ks, rfl, hp0, hp1, HM, HB, HK, HAS, HDN⟩ := hrel
        have hlen := HM.out.len 3
        have hle := HK.out.len
        by_cases hlt : p < ks.length
        · obtain ⟨w3, rfl⟩ : ∃ w3 : World, w3 = wr := ⟨_, rfl⟩
          clear HDN
          go_wp2
          clear hlen
          go_loopw [9] (fun i wr => ∃ (k : Nat) (ks' : List Int), i = .int .i64 k ∧ k ≤ F.length ∧ Hid (KMap wr w.heap.size ks') ∧ Hid (Below w.heap.size w wr) ∧ Hid (KInv V F A ks') ∧ Hid (∀ x ∈ A, x ∈ ks') ∧ Hid ((ks' = ks ∧ ∀ (j : Nat) (z : List Int), j < k → F[j]? = some z → DoneK ks z) ∨ ks.length < ks'.length)) (fun i _ => F.length - (intOf i).toNat)
          case atStart => exact ⟨0, ks, rfl, Nat.zero_le _, HM, HB, HK, HAS, .inl ⟨rfl, fun j z hj _ => absurd hj (Nat.not_lt_zero _)⟩⟩
          case round =>
            clear HM HB HK HAS
            obtain ⟨k, ks', rfl, hk, HM, HB, HK, HAS, HDN⟩ := hrel
            by_cases hlf : k < F.length
            · obtain ⟨bz, offz, aj, cj, z, rfl, hbz, hzz, hcz, hKz⟩ := (HR.out.below HB.out).at hlf
              have hzm := List.mem_of_getElem? hzz.out
              have hz0 : ∀ y ∈ z, y ≠ 0 := fun y hy => (HF.out z hzm y hy).2.2
              obtain ⟨l, hl⟩ : ∃ l, (unitR ks' 0 z).1 = l := ⟨_, rfl⟩
              obtain ⟨is, his⟩ : ∃ is, (unitR ks' 0 z).2 = is := ⟨_, rfl⟩
              have HC := Lib.hid (refUnit_any w.heap.size ks' aj cj z wr (HA.out z hzm) (fun x hx => by have := HF.out z hzm x hx; omega) HM.out hKz.out.ints (l := l) (is := is) (by rw [← hl, ← his]))
              have HZZ := Lib.hid hzz.out
              cases is with
              | false =>
                have HFL := Lib.hid (unit_false HK.out.der hzm hz0 his)
                clear hz0 hl his hzm hzz hKz
                go_wp2_with fail
                refine HC.out.mono ?_
                rintro e w' ⟨rfl, rfl⟩
                go_wp2
                go_ret2
                exact ⟨HB.out, .inl ⟨HFL.out, rfl⟩⟩
              | true =>
                by_cases hl0 : l = 0
                · subst hl0
                  have hdz := unit_zero hz0 his hl
                  have HDN2 : Hid ((ks' = ks ∧ ∀ (j : Nat) (z : List Int), j < k + 1 → F[j]? = some z → DoneK ks z) ∨ ks.length < ks'.length) := HDN.out.imp (fun ⟨h1, h2⟩ => ⟨h1, fun j y hj hy => by
                    by_cases e : j = k
                    · subst e; rw [HZZ.out] at hy; cases hy; rw [← h1]; exact hdz
                    · exact h2 j y (by omega) hy⟩) id
                  clear hz0 hl his hzm hzz hKz hdz
                  go_wp2_with fail
                  refine HC.out.mono ?_
                  rintro e w' ⟨rfl, rfl⟩
                  go_wp2
                  go_roundw
                  case rel => exact ⟨k + 1, ks', by go_num, by omega, HM, HB, HK, HAS, HDN2⟩
                  case measure => simp [intOf]; omega
                · obtain ⟨h1, h2, h3, h4⟩ := unit_one HK.out.der hzm hz0 hl his hl0
                  obtain ⟨hx1, hx2, hx0⟩ := HF.out z hzm l h1
                  obtain ⟨w2, hrun, hM2, hg2⟩ := HM.out.put (by have := HK.out.len; have : maxLen = 9223372036854775807 := rfl; omega) (x := l) ⟨by omega, by omega⟩
                  have HM2 := Lib.hid hM2
                  have HB2 := Lib.hid (kBelow HB.out hg2 (Nat.le_refl _))
                  have HK2 := Lib.hid (HK.out.ins h3 h2 ⟨hx1, hx2, hx0⟩)
                  have HAS2 : Hid (∀ x ∈ A, x ∈ insK ks' l) := fun x hx => mem_insK.2 (.inl (HAS.out x hx))
                  have HDN2 : Hid ((insK ks' l = ks ∧ ∀ (j : Nat) (z : List Int), j < k + 1 → F[j]? = some z → DoneK ks z) ∨ ks.length < (insK ks' l).length) := by
                    by_cases hlk : l ∈ ks'
                    · have e : insK ks' l = ks' := by unfold insK; rw [if_pos hlk]
                      unfold Hid
                      rw [e]
                      exact HDN.out.imp (fun ⟨g1, g2⟩ => ⟨g1, fun j y hj hy => by
                        by_cases e : j = k
                        · subst e; rw [HZZ.out] at hy; cases hy; rw [← g1]; exact h4 hlk
                        · exact g2 j y (by omega) hy⟩) id
                    · right
                      unfold insK
                      rw [if_neg hlk, List.length_append]
                      rcases HDN.out with ⟨g1, _⟩ | g
                      · rw [g1]; simp
                      · simp; omega
                  have e1 : (l == 0) = false := by simp [hl0]
                  clear hz0 hl his hzm hzz hKz h1 h2 h3 h4 hx1 hx2 hx0 hM2 hg2
                  go_wp2_with fail
                  refine HC.out.mono ?_
                  rintro e w' ⟨rfl, rfl⟩
                  go_wp2
                  go_roundw
                  case rel => exact ⟨k + 1, _, by go_num, by omega, HM2, HB2, HK2, HAS2, HDN2⟩
                  case measure => simp [intOf]; omega
            · have HDN2 : Hid ((ks.length : Int) < ks'.length ∨ ∀ z ∈ F, DoneK ks' z) := by
                rcases HDN.out with ⟨g1, g2⟩ | g
                · right
                  intro z hz
                  obtain ⟨j, hj⟩ := List.mem_iff_getElem?.1 hz
                  rw [g1]
                  exact g2 j z (by have := (List.getElem?_eq_some_iff.1 hj).1; omega) hj
                · left; omega
              have hge : (ks.length : Int) ≤ ks'.length := by
                rcases HDN.out with ⟨g1, _⟩ | g
                · rw [g1]; exact Int.le_refl _
                · omega
              go_wp2
              go_roundw
              case rel => exact ⟨ks.length, ks', rfl, by omega, hge, HM, HB, HK, HAS, HDN2⟩
              case measure => simp [intOf]; omega
        · have hd : ∀ z ∈ F, DoneK ks z := HDN.out.resolve_left hlt
          obtain ⟨g1, g2⟩ := HK.out.done HAS.out hd
          have G1 := Lib.hid g1
          have G2 := Lib.hid g2
          clear hd g1 g2
          go_wp2
          go_ret2
          exact ⟨HB.out, .inr ⟨_, rfl, ks, HM.out, Nat.le_refl _, G1.out, G2.out⟩⟩
end Go.Proofs.Ytbljkbdbiceokaa
