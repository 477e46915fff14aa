/-
  The reference's Units.
-/
import Derived.Test.YtbljkbdbiceokaaPropX
namespace Go.Proofs.Ytbljkbdbiceokaa
open Go.RowKit Go.Lib
open Go.RowKit (Below)

def kv (ks : List Int) (v : Nat) : Int := if v = 0 then 0 else if (v : Int) ∈ ks then v else if -(v : Int) ∈ ks then -(v : Int) else 0
def kL (ks : List Int) (j : Nat) : List Int := (List.range (j + 1)).map (kv ks)
theorem kL_zero (ks : List Int) : litsOf (kL ks 0) = [] := by simp [kL, litsOf, kv]
theorem kL_succ (ks : List Int) (j : Nat) : litsOf (kL ks (j + 1)) = litsOf (kL ks j) ++ litsOf [kv ks (j + 1)] := by
  unfold kL litsOf
  rw [List.range_succ (n := j + 1), List.map_append, List.filter_append]; rfl
theorem kv_pos {ks : List Int} {j : Nat} (h : ((j : Int) + 1) ∈ ks) : litsOf [kv ks (j + 1)] = [(j : Int) + 1] := by
  have e : kv ks (j + 1) = (j : Int) + 1 := by
    unfold kv; rw [if_neg (by omega), if_pos (by simpa using h)]; simp
  rw [e]; unfold litsOf; simp; omega
theorem kv_neg {ks : List Int} {j : Nat} (h0 : ((j : Int) + 1) ∉ ks) (h : -((j : Int) + 1) ∈ ks) : litsOf [kv ks (j + 1)] = [-((j : Int) + 1)] := by
  have e : kv ks (j + 1) = -((j : Int) + 1) := by
    unfold kv; rw [if_neg (by omega), if_neg (by simpa using h0), if_pos (by simpa using h)]; simp
  rw [e]; unfold litsOf; simp; omega
theorem kv_none {ks : List Int} {j : Nat} (h0 : ((j : Int) + 1) ∉ ks) (h : -((j : Int) + 1) ∉ ks) : litsOf [kv ks (j + 1)] = [] := by
  have e : kv ks (j + 1) = 0 := by
    unfold kv; rw [if_neg (by omega), if_neg (by simpa using h0), if_neg (by simpa using h)]
  rw [e]; unfold litsOf; simp
theorem kv_abs (ks : List Int) (v : Nat) : kv ks v = 0 ∨ (kv ks v).natAbs = v := by
  unfold kv
  split
  · exact .inl rfl
  · split
    · right; omega
    · split
      · right; omega
      · exact .inl rfl
theorem kL_follows {n : Nat} {F : List (List Int)} {A ks : List Int} (hk : ∀ x, x ∈ ks ↔ Der F A x) (hf : ¬ Fails F A) (hr : ∀ x ∈ ks, -(n : Int) ≤ x ∧ x ≤ n ∧ x ≠ 0) : Follows n F A (litsOf (kL ks n)) := by
  have hone : ∀ x ∈ ks, -x ∉ ks := fun x h1 h2 => hf (.inr ⟨x, (hk x).1 h1, (hk _).1 h2⟩)
  have hget : ∀ v : Nat, (kL ks n).getD v 0 = if v ≤ n then kv ks v else 0 := fun v => by
    unfold kL
    rw [List.getD_eq_getElem?_getD, List.getElem?_map]
    by_cases h : v ≤ n
    · rw [if_pos h, List.getElem?_range (by omega)]; rfl
    · rw [if_neg h, List.getElem?_eq_none (by simp; omega)]; rfl
  refine ⟨hf, kL ks n, by simp [kL], by rw [hget, if_pos (Nat.zero_le _)]; rfl, fun v => ?_, rfl, fun x => ?_⟩
  · rw [hget]
    split
    · exact kv_abs ks v
    · exact .inl rfl
  · rw [← hk x]
    unfold litsOf kL
    rw [List.mem_filter, List.mem_map]
    constructor
    · rintro ⟨⟨v, _, rfl⟩, h0⟩
      have h0 : kv ks v ≠ 0 := by simpa using h0
      unfold kv at h0 ⊢
      by_cases h1 : v = 0
      · rw [if_pos h1] at h0; exact absurd rfl h0
      · rw [if_neg h1] at h0 ⊢
        by_cases h2 : (v : Int) ∈ ks
        · rw [if_pos h2]; exact h2
        · rw [if_neg h2] at h0 ⊢
          by_cases h3 : -(v : Int) ∈ ks
          · rw [if_pos h3]; exact h3
          · rw [if_neg h3] at h0; exact absurd rfl h0
    · intro hx
      obtain ⟨h1, h2, h3⟩ := hr x hx
      refine ⟨⟨x.natAbs, by rw [List.mem_range]; omega, ?_⟩, by simpa using h3⟩
      unfold kv
      rw [if_neg (by omega)]
      by_cases hp : 0 < x
      · have e : ((x.natAbs : Nat) : Int) = x := by omega
        rw [e, if_pos hx]
      · have e : ((x.natAbs : Nat) : Int) = -x := by omega
        rw [e, if_neg (hone x hx), Int.neg_neg, if_pos hx]

set_option maxRecDepth 100000 in
set_option maxHeartbeats 4000000 in
theorem refUnits_any {n : Nat} {zss : List (List Int)} {xs : List Int} (a : Option Addr) (c : Nat) (xa : Option Addr) (xc : Nat) (w : World) (hn : n ≤ 1000000) (hm : zss.length ≤ maxLen) (hA : AllLen zss) (hR : RowsR .i64 w a zss) (hX : IntsR w xa xs) (hxl : xs.length ≤ maxLen)
    (hz : ∀ z ∈ zss, ∀ x ∈ z, Rng x) (hxr : ∀ x ∈ xs, Rng x) :
    Calls Try.prog 36 #[.agg #[.int .i64 n, .slice a zss.length c], .slice xa xs.length xc] w (UnitsPost w n zss xs) := by
  obtain ⟨i0, hi, hz0, hz1, hz2⟩ := info_parts Try.info3
  have HR := Lib.hid hR
  have HX := Lib.hid hX
  have HXL := Lib.hid hxl
  have HML := Lib.hid hm
  have HA := Lib.hid hA
  have HT := Lib.hid (Two.new w (.int .i64 n) (.slice a zss.length c))
  have HZ := Lib.hid hz
  have HXR := Lib.hid hxr
  obtain ⟨r, hr⟩ : ∃ r, checkF n zss = r := ⟨_, rfl⟩
  have HC := Lib.hid (fun (W : World) (h1 : RowsR .i64 W a zss) => refCheckF_is rfl hr a c W hm hA h1)
  have HRR := Lib.hid hr
  clear hm hA hR hX hz hxr hr
  unfold maxLen at hxl
  go_enter Try.func36, Try.ntmps36
  have c0 := HT.out.c0
  have c1 := HT.out.c1
  go_wp2_with fail
  refine (HC.out _ (HR.out.alloc _)).mono ?_
  rintro e w2 ⟨rfl, hB⟩
  have HB2 := Lib.hid ((boxed w (.cells #[.int .i64 n, .slice a zss.length c] 26)).trans (hB.mono (by simp)))
  have HT2 : Hid (Two w2 w.heap.size (.int .i64 n) (.slice a zss.length c)) := HT.out.below hB (by simp)
  have hg2 : w.heap.size < w2.heap.size := HT2.out.lt
  clear hB c0 c1
  by_cases hr0 : r = 0
  · subst hr0
    have hwn : IntKind.i64.wrap (-(n : Int)) = -(n : Int) := IntWalk.i64_in _ (by omega)
    go_wp2
    go_loopw [8] (fun i wr => ∃ k : Nat, i = .int .i64 k ∧ k ≤ xs.length ∧ Hid (QuietTo w2 wr) ∧ Hid (∀ (j : Nat) (x : Int), j < k → xs[j]? = some x → badB n x = false)) (fun i _ => xs.length - (intOf i).toNat)
    case atStart => exact ⟨0, rfl, Nat.zero_le _, QuietTo.rfl', fun j x hj _ => absurd hj (Nat.not_lt_zero _)⟩
    case round =>
      obtain ⟨k, rfl, hk, HQT, HBD⟩ := hrel
      have HTr := Lib.hid (HT2.out.below (quietBelow HQT.out w2.heap.size) hg2)
      have c0 := HTr.out.c0
      have c1 := HTr.out.c1
      have HXr := Lib.hid ((HX.out.below HB2.out).below (quietBelow HQT.out w2.heap.size))
      by_cases hlt : k < xs.length
      · obtain ⟨bx, offx, x, rfl, hx, hcx⟩ := HXr.out.at hlt
        have hxm := List.mem_of_getElem? hx.out
        obtain ⟨hx1, hx2⟩ := HXR.out x hxm
        have hau := au_abs x hx1 (by omega)
        have HQ2 : Hid (∀ q, QuietTo w2 (wr.drewN q)) := fun q => HQT.out.on q
        by_cases hbad : badB n x = true
        · have HCP : Hid (checkP n zss xs = 3) := by
            unfold Hid checkP
            rw [HRR.out, if_neg (by simp), if_pos (List.any_eq_true.2 ⟨x, hxm, hbad⟩)]
          have HBB : Hid (∀ q, Below w.heap.size w (wr.drewN q)) := fun q => HB2.out.trans (quietBelow (HQ2.out q) w.heap.size)
          have hcase : x = 0 ∨ ((x == 0) = false ∧ decide ((n : Int) < x) = true) ∨ ((x == 0) = false ∧ decide ((n : Int) < x) = false ∧ decide (x < -(n : Int)) = true) := by
            by_cases h0 : x = 0
            · exact .inl h0
            · right
              have e0 : (x == 0) = false := by simp [h0]
              by_cases h1 : (n : Int) < x
              · exact .inl ⟨e0, decide_eq_true h1⟩
              · refine .inr ⟨e0, decide_eq_false h1, decide_eq_true ?_⟩
                unfold badB at hbad
                rw [e0, Bool.false_or, decide_eq_true_eq, hau] at hbad
                split at hbad <;> omega
          clear hx hxm hx1 hx2 hau hbad HQT HQ2 HBD
          rcases hcase with rfl | ⟨e0, e1⟩ | ⟨e0, e1, e2⟩
          all_goals
            go_wp2
            go_quiet (fail)
            go_wp2
            refine bodyPost_ret (v := .tuple #[.slice none 0 0, .bool false, .int .i64 3]) (by simp [results, Try.results36, go_sem]) rfl ?_
            exact ⟨HBB.out _, .inl ⟨by rw [HCP.out]; decide, by rw [HCP.out]⟩⟩
        · have hb' : badB n x = false := by simpa using hbad
          obtain ⟨g1, g2⟩ := badB_ok ⟨hx1, hx2⟩ hb'
          have e0 : (x == 0) = false := by simp [g1]
          have e1 : decide ((n : Int) < x) = false := decide_eq_false (by omega)
          have e2 : decide (x < -(n : Int)) = false := decide_eq_false (by omega)
          have HBD2 : Hid (∀ (j : Nat) (y : Int), j < k + 1 → xs[j]? = some y → badB n y = false) := fun j y hj hy => by
            by_cases e : j = k
            · subst e; rw [hx.out] at hy; cases hy; exact hb'
            · exact HBD.out j y (by omega) hy
          clear hx hxm hx1 hx2 hau hbad hb' g1 g2 HQT HBD
          go_wp2
          go_quiet (fail)
          go_wp2
          go_roundw
          case rel => exact ⟨k + 1, by go_num, by omega, HQ2.out _, HBD2⟩
          case measure => simp [intOf]; omega
      · have hcp : checkP n zss xs = 0 := by
          have h2 : xs.any (badB n) = false := by
            rw [List.any_eq_false]
            intro x hx
            obtain ⟨j, hj⟩ := List.mem_iff_getElem?.1 hx
            rw [HBD.out j x (by have := (List.getElem?_eq_some_iff.1 hj).1; omega) hj]; simp
          unfold checkP
          rw [HRR.out, if_neg (by simp), h2]; rfl
        have HCP := Lib.hid hcp
        have HV := Lib.hid (checkP_zero HZ.out HXR.out hcp)
        have HRr := Lib.hid ((HR.out.below HB2.out).quiet HQT.out)
        have HBr := Lib.hid (HB2.out.trans (quietBelow HQT.out w.heap.size))
        have hgr : w.heap.size < wr.heap.size := HTr.out.lt
        obtain ⟨w3, rfl⟩ : ∃ w3 : World, w3 = wr := ⟨_, rfl⟩
        clear hcp HBD HQT hk
        have HZR : Hid (∀ z ∈ zss, ∀ x ∈ z, -(n : Int) ≤ x ∧ x ≤ n ∧ x ≠ 0) := fun z hz x hx => by have := HV.out.2.2.2.1 z hz x hx; omega
        have HAR : Hid (∀ x ∈ xs, -(n : Int) ≤ x ∧ x ≤ n ∧ x ≠ 0) := fun x hx => by have := HV.out.2.2.2.2 x hx; omega
        go_wp2_with fail
        refine (refPropagate_any (V := n) (by omega) a c zss xa xc xs _ HML.out HA.out HRr.out HXr.out HXL.out HZR.out HAR.out).mono ?_
        rintro e w4 ⟨hB4, (⟨hF, rfl⟩ | ⟨mb, ks, rfl, hK, hmb, hk1, hk2⟩)⟩
        · have HB4 := Lib.hid (HBr.out.trans (hB4.mono HBr.out.size))
          have HF := Lib.hid hF
          clear hB4 hF
          go_wp2
          refine bodyPost_ret (v := .tuple #[.slice none 0 0, .bool true, .int .i64 0]) (by simp [results, Try.results36, go_sem]) rfl ?_
          exact ⟨HB4.out, .inr (.inl ⟨HCP.out, HF.out, rfl⟩)⟩
        · have HB4 := Lib.hid (HBr.out.trans (hB4.mono HBr.out.size))
          have HT4 := Lib.hid (HTr.out.below hB4 hgr)
          have hg4 : w.heap.size < w4.heap.size := HT4.out.lt
          have HKW : Hid (∀ W, Below w4.heap.size w4 W → KMap W mb ks) := fun W hW => hK.of (hW.block mb hK.lt)
          have hkr : ∀ x ∈ ks, -(n : Int) ≤ x ∧ x ≤ n ∧ x ≠ 0 := fun x hx => by
            cases (hk1 x).1 hx with
            | assume h => exact HAR.out _ h
            | unit hc hx _ => exact HZR.out _ hc _ hx
          have hone : ∀ x ∈ ks, -x ∉ ks := fun x h1 h2 => hk2 (.inr ⟨x, (hk1 x).1 h1, (hk1 _).1 h2⟩)
          have HONE := Lib.hid hone
          have HFO := Lib.hid (kL_follows hk1 hk2 hkr)
          have hsz4 : w.heap.size ≤ w4.heap.size := by omega
          clear hB4 hK hmb hk1 hk2 hkr hone c0 c1 HTr
          have c0 := HT4.out.c0
          go_wp2
          clear c0
          go_loopw [11, 12] (fun sv v wr => ∃ j : Nat, v = .int .i64 ((j : Int) + 1) ∧ j ≤ n ∧ Hid (Own wr w4.heap.size sv (litsOf (kL ks j))) ∧ Hid (Below w4.heap.size w4 wr)) (fun _ v _ => n + 1 - (intOf v).toNat)
          case atStart => exact ⟨0, rfl, Nat.zero_le _, by unfold Hid; rw [kL_zero]; exact Own.nil _ _, Below.refl _ _⟩
          case round =>
            obtain ⟨j, rfl, hj, HO, HB⟩ := hrel
            have c0 := (HT4.out.below HB.out hg4).c0
            obtain ⟨sa, sc, rfl, _⟩ := HO.out.reads
            have hll : (litsOf (kL ks j)).length ≤ n + 1 := by
              unfold litsOf
              refine Nat.le_trans (List.length_filter_le _ _) ?_
              rw [kL, List.length_map, List.length_range]
              omega
            by_cases hlt : j < n
            · have hle : ((j : Int) + 1) ≤ (n : Int) := by omega
              have HSU := Lib.hid (kL_succ ks j)
              have hsz := HB.out.size
              have hl1 := (HKW.out wr HB.out).look (x := (j : Int) + 1) ⟨by omega, by omega⟩
              have HLK : Hid (∀ W, Below w4.heap.size w4 W → (Instr.lookup 86 (.map (some mb)) (.int .i64 (-((j : Int) + 1))) false).run Try.prog W = .ok (.bool (decide (-((j : Int) + 1) ∈ ks))) W) := fun W hW => (HKW.out W hW).look ⟨by omega, by omega⟩
              obtain ⟨M, hM⟩ : ∃ M : Int, (j : Int) + 1 = M := ⟨_, rfl⟩
              obtain ⟨U, hU⟩ : ∃ U, litsOf (kL ks j) = U := ⟨_, rfl⟩
              have HKP : Hid (M ∈ ks → litsOf [kv ks (j + 1)] = [M]) := by rw [← hM]; exact kv_pos
              have HKN : Hid (M ∉ ks → -M ∈ ks → litsOf [kv ks (j + 1)] = [-M]) := by rw [← hM]; exact kv_neg
              have HK0 : Hid (M ∉ ks → -M ∉ ks → litsOf [kv ks (j + 1)] = []) := by rw [← hM]; exact kv_none
              have hM0 : 0 < M := by omega
              have hMn : M ≤ (n : Int) := by omega
              have hwM : IntKind.i64.wrap (-M) = -M := IntWalk.i64_in _ (by omega)
              have hwM1 : IntKind.i64.wrap (M + 1) = M + 1 := IntWalk.i64_in _ (by omega)
              have HJM : Hid (M + 1 = ((j + 1 : Nat) : Int) + 1) := by unfold Hid; omega
              have HMS : Hid (n + 1 - (M + 1).toNat < n + 1 - M.toNat) := by unfold Hid; omega
              rw [hM] at hl1 HLK hle
              rw [hM]
              rw [hU] at HSU HO hll
              rw [hU]
              clear hM hU
              by_cases h1 : M ∈ ks
              · rw [decide_eq_true h1] at hl1
                have h2 : -M ∉ ks := HONE.out M h1
                have hk' := HKP.out h1
                rw [hk'] at HSU
                clear h1 hk' HKP HKN HK0
                go_wp2_with (at_builtin; refine wpList_append_own _ rfl _ _ 23 rfl w4.heap.size 3 i0 (.int .i64 0) 1 8 Try.underlying23 hi hz0 hz1 hz2 rfl (by decide) (.slice sa U.length sc) U.length (U.map (Value.int .i64)) (by rfl) (World.ownsRow.alloc HO.out _) ⟨wr.heap.size, 0, none⟩ 1 1 [.int .i64 M] (by rfl) (by rfl) (one_new (by simp)) one_int ?c3 ?c4 ?c5 ?_)
                case c3 => unfold maxLen; omega
                case c4 => omega
                case c5 => simp; omega
                intro v' w7 hown' hgrow _
                have R1 : Hid (Own w7 w4.heap.size v' (litsOf (kL ks (j + 1)))) := Own.of hown' (by rw [HSU.out]; simp) (by rw [HSU.out]; simp)
                have R2 := Lib.hid (Own.below HO.out HB.out hsz hgrow)
                have hl2 := HLK.out w7 R2.out
                rw [decide_eq_false h2] at hl2
                clear hown' hgrow h2
                go_wp2
                go_roundw
                case rel => exact ⟨j + 1, by rw [HJM.out], by omega, R1, R2⟩
                case measure => exact HMS.out
              · rw [decide_eq_false h1] at hl1
                by_cases h2 : -M ∈ ks
                · have hl2 := HLK.out wr HB.out
                  rw [decide_eq_true h2] at hl2
                  have hk' := HKN.out h1 h2
                  rw [hk'] at HSU
                  clear h1 h2 hk' HKP HKN HK0
                  go_wp2_with (at_builtin; refine wpList_append_own _ rfl _ _ 23 rfl w4.heap.size 3 i0 (.int .i64 0) 1 8 Try.underlying23 hi hz0 hz1 hz2 rfl (by decide) (.slice sa U.length sc) U.length (U.map (Value.int .i64)) (by rfl) (World.ownsRow.alloc HO.out _) ⟨wr.heap.size, 0, none⟩ 1 1 [.int .i64 (-M)] (by rfl) (by rfl) (one_new (by simp)) one_int ?e3 ?e4 ?e5 ?_)
                  case e3 => unfold maxLen; omega
                  case e4 => omega
                  case e5 => simp; omega
                  intro v' w7 hown' hgrow _
                  have R1 : Hid (Own w7 w4.heap.size v' (litsOf (kL ks (j + 1)))) := Own.of hown' (by rw [HSU.out]; simp) (by rw [HSU.out]; simp)
                  have R2 := Lib.hid (Own.below HO.out HB.out hsz hgrow)
                  clear hown' hgrow
                  go_wp2
                  go_roundw
                  case rel => exact ⟨j + 1, by rw [HJM.out], by omega, R1, R2⟩
                  case measure => exact HMS.out
                · have hl2 := HLK.out wr HB.out
                  rw [decide_eq_false h2] at hl2
                  have hk' := HK0.out h1 h2
                  rw [hk', List.append_nil] at HSU
                  have R1 : Hid (Own wr w4.heap.size (.slice sa U.length sc) (litsOf (kL ks (j + 1)))) := by unfold Hid; rw [HSU.out]; exact HO.out
                  clear h1 h2 hk' HKP HKN HK0
                  go_wp2
                  go_roundw
                  case rel => exact ⟨j + 1, by rw [HJM.out], by omega, R1, HB⟩
                  case measure => exact HMS.out
            · obtain rfl : j = n := by omega
              have HB5 := Lib.hid (HB4.out.trans (HB.out.mono HB4.out.size))
              have HOF := Lib.hid (ownMono HO.out hsz4)
              obtain ⟨U, hU⟩ : ∃ U, litsOf (kL ks j) = U := ⟨_, rfl⟩
              rw [hU] at HFO HOF hll
              rw [hU]
              clear hU
              go_wp2
              refine bodyPost_ret (v := .tuple #[.slice sa U.length sc, .bool false, .int .i64 0]) (by simp [results, Try.results36, go_sem]) rfl ?_
              exact ⟨HB5.out, .inr (.inr ⟨HCP.out, _, U, HFO.out, rfl, HOF.out⟩)⟩
  · have HR0 := Lib.hid hr0
    have e1 : (r == 0) = false := by simp [hr0]
    have hcp : checkP n zss xs = r := by unfold checkP; rw [HRR.out, if_pos hr0]
    have HCP := Lib.hid hcp
    clear hcp hr0
    go_wp2
    refine bodyPost_ret (v := .tuple #[.slice none 0 0, .bool false, .int .i64 r]) (by simp [results, Try.results36, go_sem]) rfl ?_
    exact ⟨HB2.out, .inl ⟨by rw [HCP.out]; exact HR0.out, by rw [HCP.out]⟩⟩
end Go.Proofs.Ytbljkbdbiceokaa
