/-
  learnAll; literals.
-/
import Derived.Test.YtbljkbdbiceokaaPropK
namespace Go.Proofs.Ytbljkbdbiceokaa
open Go.RowKit Go.Lib
open Go.RowKit (Below)

set_option maxHeartbeats 1000000 in
theorem learnAll_any {B : Nat} {m : Mm} {f : Int → Value} {cv : Value} {N s r : Nat} {vs : List Value} {S : St} {w w0 : World} (h : PR B m f cv N s r vs S w) {F : List (List Int)} {xs : List Int} (I : Inv F F xs m.n S 0 [])
    {a : Option Addr} {c : Nat} (hB : w0.heap.size = B) (hX : IntsR w0 a xs) (hb : Below B w0 w) (hl : xs.length ≤ maxLen) (hok : ∀ x ∈ xs, x ≠ 0 ∧ x.natAbs ≤ m.n) (hnn : m.n ≤ 1000000) :
    Calls Try.prog 47 #[.pointer (some ⟨m.pb, 0, none⟩), .slice a xs.length c] w fun e w' => ∃ b S', e = .returned (.bool b) ∧ (∃ f' cv' N' s' r' vs', PR B m f' cv' N' s' r' vs' S' w') ∧
      (b = true → Inv F F xs m.n S' 0 [] ∧ ∀ x ∈ xs, S'.kn x) ∧ (b = false → Fails F xs) ∧ Below B w w' := by
  have HP := Lib.hid h
  have HI := Lib.hid I
  have HB := Lib.hid hB
  have HX := Lib.hid hX
  have HBW := Lib.hid hb
  have HNN := Lib.hid hnn
  have HOK := Lib.hid hok
  have hmI : (xs.length : Int) ≤ 9223372036854775807 := by have : maxLen = 9223372036854775807 := rfl; omega
  clear h I hB hX hb hnn hok hl
  go_enter Try.func47, Try.ntmps47
  go_wp2
  go_loopw [9] (fun i wr => ∃ (k : Nat) (S1 : St), i = .int .i64 k ∧ k ≤ xs.length ∧ Hid (∃ s1, PR B m f cv N s1 r vs S1 wr) ∧ Hid (Inv F F xs m.n S1 0 [] ∧ ∀ j x, j < k → xs[j]? = some x → S1.kn x) ∧ Hid (Below B w wr)) (fun i _ => xs.length - (intOf i).toNat)
  case atStart => exact ⟨0, S, rfl, Nat.zero_le _, ⟨_, HP.out⟩, ⟨HI.out, fun j x hj => by omega⟩, Below.refl _ _⟩
  case round =>
    obtain ⟨k, S1, rfl, hk, HPE, HIE, HB1⟩ := hrel
    obtain ⟨s1, hP1⟩ := HPE.out
    by_cases hlt : k < xs.length
    · have hBw := HBW.out.trans HB1.out
      obtain ⟨b, off, x, rfl, hx, hcx⟩ := (HX.out.below (by rw [HB.out]; exact hBw)).at hlt
      have hxm : x ∈ xs := List.mem_of_getElem? hx.out
      have hxo := HOK.out x hxm
      have hw := learn_any hP1 hxo.2 HNN.out (fun _ => HIE.out.1.room hxo.1 hxo.2)
      have hstep := HIE.out.1.learn hxo.1 hxo.2 (.assume hxm)
      obtain ⟨bb, hbb⟩ : ∃ bb, (learnS S1 x).2 = bb := ⟨_, rfl⟩
      rw [hbb] at hw hstep
      have HW := Lib.hid hw
      have HST := Lib.hid hstep
      clear hBw hP1 HPE hxm hxo hw hstep hbb
      go_wp2_with fail
      refine HW.out.mono ?_
      rintro e' w' ⟨rfl, ⟨s4, hP4⟩, hB4⟩
      have HP4 : Hid (∃ s1, PR B m f cv N s1 r vs (learnS S1 x).1 w') := ⟨_, hP4⟩
      have HB4 := Lib.hid (HB1.out.trans hB4)
      clear hP4 hB4 hcx HW
      cases bb with
      | true =>
        have HI4 : Hid (Inv F F xs m.n (learnS S1 x).1 0 [] ∧ ∀ j y, j < k + 1 → xs[j]? = some y → (learnS S1 x).1.kn y) := by
          refine ⟨HST.out.1, fun j y hj hy => ?_⟩
          by_cases hjk : j = k
          · subst hjk
            rw [hx.out] at hy
            cases hy
            exact HST.out.2.2.1 rfl
          · exact HST.out.2.1 y (HIE.out.2 j y (by omega) hy)
        clear HST
        go_wp2
        go_roundw
        case rel => exact ⟨k + 1, _, by go_num, by omega, HP4, HI4, HB4⟩
        case measure => simp [intOf]; omega
      | false =>
        have HFL := Lib.hid (HST.out.2.2.2 rfl)
        clear HST
        go_wp2
        go_ret
        obtain ⟨_, h⟩ := HP4.out
        exact ⟨false, _, rfl, ⟨_, _, _, _, _, _, h⟩, (fun h => by cases h), fun _ => HFL.out, HB4.out⟩
    · have hkl : k = xs.length := by omega
      have HIF : Hid (Inv F F xs m.n S1 0 [] ∧ ∀ x ∈ xs, S1.kn x) := by
        refine ⟨HIE.out.1, fun x hx => ?_⟩
        obtain ⟨j, hj⟩ := List.mem_iff_getElem?.1 hx
        exact HIE.out.2 j x (by rw [hkl]; exact (List.getElem?_eq_some_iff.1 hj).1) hj
      have HPE2 := Lib.hid hP1
      clear hP1 HPE HIE
      go_wp2
      go_ret
      exact ⟨true, S1, rfl, ⟨_, _, _, _, _, _, HPE2.out⟩, fun _ => HIF.out, (fun h => by cases h), HB1.out⟩

def litsOf (k : List Int) : List Int := k.filter (· != 0)
theorem litsOf_keep {k : List Int} {j : Nat} {x : Int} (hx : k[j]? = some x) (h : x ≠ 0) : litsOf (k.take (j + 1)) = litsOf (k.take j) ++ [x] := by
  unfold litsOf; rw [take_snoc _ _ _ hx]; simp [h]
theorem litsOf_drop {k : List Int} {j : Nat} {x : Int} (hx : k[j]? = some x) (h : x = 0) : litsOf (k.take (j + 1)) = litsOf (k.take j) := by
  unfold litsOf; rw [take_snoc _ _ _ hx]; simp [h]
theorem litsOf_le (k : List Int) : (litsOf k).length ≤ k.length := List.length_filter_le _ _

set_option maxRecDepth 100000 in
set_option maxHeartbeats 1000000 in
theorem literals_any {B : Nat} {m : Mm} {f : Int → Value} {cv : Value} {N s r : Nat} {vs : List Value} {S : St} {w : World} (h : PR B m f cv N s r vs S w) (hnn : m.n ≤ 1000000) :
    Calls Try.prog 49 #[.pointer (some ⟨m.pb, 0, none⟩)] w fun e w' => ∃ v, e = .returned v ∧ Own w' w.heap.size v (litsOf S.known) ∧ Below w.heap.size w w' := by
  have c0 : w.cell? ⟨m.pb, 0, none⟩ = some (.slice (some ⟨m.kb, 0, none⟩) (m.n + 1) (m.n + 1)) := h.blk.cell rfl
  have HKL := Lib.hid h.klen
  have HK : Hid (∀ j x, S.known[j]? = some x → w.cell? ⟨m.kb, j, none⟩ = some (.int .i64 x)) := fun j x hx => h.kn.cell (by rw [List.getElem?_map, hx]; rfl)
  have HLT := Lib.hid h.kn.lt
  obtain ⟨i0, hi, hz0, hz1, hz2⟩ := info_parts Try.info3
  clear h
  go_enter Try.func49, Try.ntmps49
  go_wp2
  go_loopw [3, 11] (fun cv i wr => ∃ k : Nat, i = .int .i64 k ∧ k ≤ m.n + 1 ∧ Hid (Own wr w.heap.size cv (litsOf (S.known.take k))) ∧ Hid (Below w.heap.size w wr)) (fun _ i _ => m.n + 1 - (intOf i).toNat)
  case atStart => exact ⟨0, rfl, Nat.zero_le _, Own.nil _ _, Below.refl _ _⟩
  case round =>
    obtain ⟨k, rfl, hk, HO, HB⟩ := hrel
    by_cases hlt : k < m.n + 1
    · obtain ⟨x, hx⟩ : ∃ x, S.known[k]? = some x := ⟨_, List.getElem?_eq_getElem (by rw [HKL.out]; exact hlt)⟩
      have hcx : wr.cell? ⟨m.kb, k, none⟩ = some (.int .i64 x) := by rw [HB.out.cell (p := ⟨m.kb, k, none⟩) HLT.out]; exact HK.out k x hx
      have hle := litsOf_le (S.known.take k)
      have hle2 : (S.known.take k).length ≤ k := List.length_take_le _ _
      have hsz := HB.out.size
      by_cases hx0 : x = 0
      · have HO2 : Hid (Own wr w.heap.size u3 (litsOf (S.known.take (k + 1)))) := by unfold Hid; rw [litsOf_drop hx hx0]; exact HO.out
        have e1 : (x != 0) = false := by simp [hx0]
        clear hx hx0 HO
        go_wp2
        go_roundw
        case rel => exact ⟨k + 1, by go_num, by omega, HO2, HB⟩
        case measure => simp [intOf]; omega
      · have HK2 := Lib.hid (litsOf_keep hx hx0)
        have e1 : (x != 0) = true := by simp [hx0]
        clear hx hx0
        go_wp2_with (at_builtin; refine wpList_append_own _ rfl _ _ 23 rfl w.heap.size 3 i0 (.int .i64 0) 1 8 Try.underlying23 hi hz0 hz1 hz2 rfl (by decide) _ _ _ rfl (World.ownsRow.alloc HO.out _) ⟨wr.heap.size, 0, none⟩ 1 1 [.int .i64 x] rfl rfl (one_new (by simp)) one_int ?c3 ?c4 ?c5 ?_)
        case c3 => unfold maxLen; omega
        case c4 => omega
        case c5 => simp; omega
        intro v' w2 hown' hgrow _
        have R1 := Lib.hid (Own.of (zs := litsOf (S.known.take (k + 1))) hown' (by rw [HK2.out]; simp) (by rw [HK2.out]; simp))
        have R2 := Lib.hid (Own.below HO.out HB.out hsz hgrow)
        clear hown' hgrow HO HB
        go_wp2
        go_roundw
        case rel => exact ⟨k + 1, by go_num, by omega, R1, R2⟩
        case measure => simp [intOf]; omega
    · have hkl : k = S.known.length := by rw [HKL.out]; omega
      have HO2 : Hid (Own wr w.heap.size u3 (litsOf S.known)) := by
        have h1 := HO.out
        rw [hkl, List.take_length] at h1
        exact h1
      clear HO hkl
      go_wp2
      go_ret
      exact ⟨_, rfl, HO2.out, HB.out⟩
end Go.Proofs.Ytbljkbdbiceokaa
