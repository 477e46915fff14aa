/-
  Units: what it answers.
-/
import Derived.Test.YtbljkbdbiceokaaPropM
namespace Go.Proofs.Ytbljkbdbiceokaa
open Go.RowKit Go.Lib
open Go.RowKit (Below)

/-- The literals u are all that follow, in their order; it does not fail. -/
def Follows (n : Nat) (F : List (List Int)) (A : List Int) (u : List Int) : Prop :=
  ¬ Fails F A ∧ ∃ known : List Int, known.length = n + 1 ∧ known.getD 0 0 = 0 ∧ (∀ v : Nat, known.getD v 0 = 0 ∨ (known.getD v 0).natAbs = v) ∧ u = litsOf known ∧ ∀ x, x ∈ u ↔ Der F A x
/-- What Units answers. -/
def UnitsPost (w : World) (n : Nat) (zss : List (List Int)) (xs : List Int) (e : Ending) (w' : World) : Prop :=
  Below w.heap.size w w' ∧
  ((checkP n zss xs ≠ 0 ∧ e = .returned (.tuple #[.slice none 0 0, .bool false, .int .i64 (checkP n zss xs)])) ∨
   (checkP n zss xs = 0 ∧ Fails zss xs ∧ e = .returned (.tuple #[.slice none 0 0, .bool true, .int .i64 0])) ∨
   (checkP n zss xs = 0 ∧ ∃ v u, Follows n zss xs u ∧ e = .returned (.tuple #[v, .bool false, .int .i64 0]) ∧ Own w' w.heap.size v u))

theorem badB_ok {n : Nat} {x : Int} (hx : Rng x) (h : badB n x = false) : x ≠ 0 ∧ x.natAbs ≤ n := by
  unfold badB at h
  rw [Bool.or_eq_false_iff, beq_eq_false_iff_ne, decide_eq_false_iff_not] at h
  obtain ⟨h1, h2⟩ := h
  rw [au_abs x hx.1 (by have := hx.2; omega)] at h2
  refine ⟨h1, ?_⟩
  split at h2 <;> omega
theorem badB_of {n : Nat} {x : Int} (hx : Rng x) (h0 : x ≠ 0) (hn : x.natAbs ≤ n) : badB n x = false := by
  unfold badB
  rw [Bool.or_eq_false_iff, beq_eq_false_iff_ne, decide_eq_false_iff_not, au_abs x hx.1 (by have := hx.2; omega)]
  refine ⟨h0, ?_⟩
  split <;> omega
theorem checkI_zero {n : Int} {z : List Int} (h : checkI n z = 0) : z.length ≤ 4096 ∧ z.any (badB n) = false := by
  unfold checkI at h
  split at h
  · simp at h
  · split at h
    · simp at h
    · split at h
      · simp at h
      · rename_i h2 h3; exact ⟨by omega, by simpa using h3⟩
theorem checkF_zero {n : Int} {zss : List (List Int)} (h : checkF n zss = 0) : zss.length ≤ 1048576 ∧ ∀ z ∈ zss, checkI n z = 0 := by
  unfold checkF at h
  split at h
  · simp at h
  · split at h
    · simp at h
    · refine ⟨by omega, fun z hz => ?_⟩
      unfold errs at h
      cases hf : zss.find? (fun z => checkI n z != 0) with
      | none =>
        rw [List.find?_eq_none] at hf
        have := hf z hz
        simpa using this
      | some y =>
        rw [hf] at h
        have := List.find?_some hf
        simp at this
        exact absurd h this
theorem checkP_zero {n : Nat} {zss : List (List Int)} {xs : List Int} (hz : ∀ z ∈ zss, ∀ x ∈ z, Rng x) (hx : ∀ x ∈ xs, Rng x) (h : checkP n zss xs = 0) :
    checkF n zss = 0 ∧ zss.length ≤ 1048576 ∧ (∀ z ∈ zss, z.length ≤ 4096) ∧ (∀ c ∈ zss, ∀ x ∈ c, x ≠ 0 ∧ x.natAbs ≤ n) ∧ ∀ x ∈ xs, x ≠ 0 ∧ x.natAbs ≤ n := by
  unfold checkP at h
  split at h
  · rename_i h1; exact absurd h h1
  · rename_i h1
    have h2 := Decidable.not_not.1 h1
    obtain ⟨h3, h4⟩ := checkF_zero h2
    split at h
    · simp at h
    · rename_i h5
      have h6 : xs.any (badB n) = false := by simpa using h5
      refine ⟨h2, h3, fun z hz' => (checkI_zero (h4 z hz')).1, fun c hc x hxc => ?_, fun x hxx => ?_⟩
      · have := (checkI_zero (h4 c hc)).2
        rw [List.any_eq_false] at this
        exact badB_ok (hz c hc x hxc) (by simpa using this x hxc)
      · rw [List.any_eq_false] at h6
        exact badB_ok (hx x hxx) (by simpa using h6 x hxx)
theorem total_le {zss : List (List Int)} {m : Nat} (h : ∀ z ∈ zss, z.length ≤ m) : total zss ≤ zss.length * m := by
  induction zss with
  | nil => simp [total]
  | cons z l ih =>
    have h1 := h z (by simp)
    have h2 := ih fun y hy => h y (by simp [hy])
    simp only [total, List.map_cons, List.sum_cons, List.length_cons] at h2 ⊢
    rw [Nat.add_mul]; omega

theorem mem_lits {F G : List (List Int)} {A : List Int} {n : Nat} {S : St} {cur : Int} {todo : List Int} (I : Inv F G A n S cur todo) (x : Int) : x ∈ litsOf S.known ↔ S.kn x := by
  unfold litsOf St.kn kat
  rw [List.mem_filter]
  constructor
  · rintro ⟨h1, h2⟩
    have h0 : x ≠ 0 := by simpa using h2
    obtain ⟨v, hv⟩ := List.mem_iff_getElem?.1 h1
    have hg : S.known.getD v 0 = x := by rw [List.getD_eq_getElem?_getD, hv]; rfl
    refine ⟨h0, ?_⟩
    rcases I.var v with h3 | h3
    · rw [hg] at h3; exact absurd h3 h0
    · rw [hg] at h3; rw [h3]; exact hg
  · rintro ⟨h0, h1⟩
    refine ⟨?_, by simpa using h0⟩
    rw [List.getD_eq_getElem?_getD] at h1
    cases hk : S.known[x.natAbs]? with
    | none => rw [hk] at h1; exact absurd h1.symm h0
    | some y => rw [hk] at h1; have : y = x := h1; subst this; exact List.mem_of_getElem? hk
theorem follows_of {F : List (List Int)} {A : List Int} {n : Nat} {S : St} (I : Inv F F A n S 0 []) (hq : S.queue = []) (hA : ∀ x ∈ A, S.kn x) : Follows n F A (litsOf S.known) := by
  refine ⟨?_, S.known, I.len, I.zero, I.var, rfl, fun x => (mem_lits I x).trans ⟨I.der x, fun h => I.closed hq hA h⟩⟩
  rintro (h | ⟨x, h1, h2⟩)
  · rcases I.cover [] h with ⟨_, _, _, h3⟩ | ⟨x, h3, _⟩
    · have := h3.ha; simp at this
    · simp at h3
  · exact kn_unique I (I.closed hq hA h1) (I.closed hq hA h2)

theorem ownMono {w : World} {B B' : Nat} {v : Value} {zs : List Int} (h : Own w B v zs) (hb : B' ≤ B) : Own w B' v zs :=
  ⟨h.1, h.2.imp id fun ⟨g, cap, cur, h1, h2, h3⟩ => ⟨g, cap, cur, h1, Nat.le_trans hb h2, h3⟩⟩

set_option maxHeartbeats 1000000 in
theorem units_any {n : Nat} {zss : List (List Int)} {xs : List Int} (a : Option Addr) (c : Nat) (xa : Option Addr) (xc : Nat) (w : World) (hn : n ≤ 1000000) (hm : zss.length ≤ maxLen) (hA : AllLen zss) (hR : RowsR .i64 w a zss) (hX : IntsR w xa xs) (hxl : xs.length ≤ maxLen)
    (hz : ∀ z ∈ zss, ∀ x ∈ z, Rng x) (hxr : ∀ x ∈ xs, Rng x) :
    Calls Try.prog 28 #[.agg #[.int .i64 n, .slice a zss.length c], .slice xa xs.length xc] w (UnitsPost w n zss xs) := by
  have h0 := Lib.hid (box0 w (.int .i64 n) (.slice a zss.length c) 26)
  have h1 := Lib.hid (box1 w (.int .i64 n) (.slice a zss.length c) 26)
  have HN := Lib.hid hn
  have HR := Lib.hid hR
  have HX := Lib.hid hX
  have HXL := Lib.hid hxl
  have HPC := Lib.hid (fun (W : World) (h1 : RowsR .i64 W a zss) (h2 : IntsR W xa xs) => pcheck_any (n := n) a c xa xc W hm hA h1 h2 hxl)
  obtain ⟨r, hr⟩ : ∃ r, checkP n zss xs = r := ⟨_, rfl⟩
  have HP := Lib.hid hr
  have HZ := Lib.hid hz
  have HXR := Lib.hid hxr
  rw [hr] at HPC
  clear hn hm hA hR hX hxl hz hxr hr
  by_cases hr0 : r = 0
  · have e1 : (r != 0) = false := by simp [hr0]
    have HV := Lib.hid (checkP_zero HZ.out HXR.out (by rw [HP.out]; exact hr0))
    have HR0 := Lib.hid hr0
    clear hr0
    go_enter Try.func28, Try.ntmps28
    go_wp2_with fail
    refine (HPC.out _ (HR.out.alloc _) (HX.out.alloc _)).mono ?_
    rintro e w2 ⟨rfl, hB⟩
    have HB2 := Lib.hid ((boxed w (.cells #[.int .i64 n, .slice a zss.length c] 26)).trans (hB.mono (by simp)))
    have HT2 : Hid (Two w2 w.heap.size (.int .i64 n) (.slice a zss.length c)) := (Two.new w _ _).below hB (by simp)
    have c0 := HT2.out.c0
    have c1 := HT2.out.c1
    clear hB
    go_wp2_with fail
    refine (newP_any HN.out HV.out.2.1 a c w2).mono ?_
    rintro e w3 ⟨m, f, cv, vs, rfl, hmn, hmT, hPR, hB3⟩
    obtain ⟨w0, hw0⟩ : ∃ w0, w2.alloc (.cells #[.int .i64 n, .slice a zss.length c] 26) = w0 := ⟨_, rfl⟩
    obtain ⟨B, hBd⟩ : ∃ B, w2.heap.size + 1 = B := ⟨_, rfl⟩
    rw [hw0, hBd] at hB3
    rw [hBd] at hPR
    have hs0 : w0.heap.size = B := by rw [← hw0, ← hBd]; simp
    have HR0' : Hid (RowsR .i64 w0 a zss) := by unfold Hid; rw [← hw0]; exact (HR.out.below HB2.out).alloc _
    have HX0' : Hid (IntsR w0 xa xs) := by unfold Hid; rw [← hw0]; exact (HX.out.below HB2.out).alloc _
    have HB0 : Hid (Below w.heap.size w w0) := by unfold Hid; rw [← hw0]; exact HB2.out.alloc (HB2.out.size) _
    have HT0 : Hid (Two w0 w.heap.size (.int .i64 n) (.slice a zss.length c)) := by unfold Hid; rw [← hw0]; exact HT2.out.alloc _
    have hwB : w.heap.size < B := by rw [← hs0]; exact HT0.out.lt
    have HT3 := Lib.hid (HT0.out.below hB3 hwB)
    -- what has been made, with room for all clauses
    have hPR2 := hPR.more (T := total zss) (by simp [potC])
    obtain ⟨m', hm'⟩ : ∃ m' : Mm, { m with T := total zss } = m' := ⟨_, rfl⟩
    have hpb : m'.pb = m.pb := by rw [← hm']
    have hmn' : m'.n = n := by rw [← hm']; exact hmn
    have hmT' : m'.T = total zss := by rw [← hm']
    rw [hm'] at hPR2
    have hI : Inv zss [] xs m'.n ⟨List.replicate (m'.n + 1) 0, [], fun _ => [], []⟩ 0 [] := Inv.start (by rw [hmn']; exact HV.out.2.2.2.1)
    have htot : total zss ≤ 1000000000000 := by
      have h1 := total_le HV.out.2.2.1
      have h2 := HV.out.2.1
      omega
    rw [← hmn'] at hPR2
    have HW := Lib.hid (watchAll_any hPR2 hI (fun x hx => by
      exfalso
      have := hx.2
      unfold kat at this
      rw [List.getD_eq_getElem?_getD, List.getElem?_replicate] at this
      have h0 := hx.1
      split at this
      · exact h0 this.symm
      · exact h0 this.symm) rfl (a := a) (c := c) hs0 HR0'.out hB3 (by have := HV.out.2.1; omega) (by rw [hmn']; exact HN.out) (by simp [potC, hmT']) (by rw [hmT']; exact htot))
    have HTOT : Hid (m'.T ≤ 1000000000000) := by unfold Hid; rw [hmT']; exact htot
    have HMN := Lib.hid hmn'
    have HS0 := Lib.hid hs0
    have HB3 := Lib.hid hB3
    rw [← hpb]
    have c1 := HT3.out.c1
    clear hmn hmT hPR hB3 hw0 hs0 hPR2 hm' hpb hmn' hmT' hI htot HPC c0
    have HWB := Lib.hid hwB
    clear hBd hwB
    go_wp2_with fail
    refine HW.out.mono ?_
    rintro e w4 ⟨b1, S4, rfl, ⟨f4, cv4, N4, s4, r4, vs4, hP4⟩, ht4, hf4, hB4⟩
    have HB4 := Lib.hid (HB3.out.trans hB4)
    have HP4 := Lib.hid hP4
    have HF4 := Lib.hid hf4
    have HTT4 := Lib.hid ht4
    clear hP4 ht4 hf4 hB4 HW
    have HBW : Hid (∀ W, Below B w0 W → Below w.heap.size w W) := fun W hb => HB0.out.trans (hb.mono (by have := HWB.out; omega))
    cases b1 with
    | false =>
      go_wp2
      refine bodyPost_ret (v := .tuple #[.slice none 0 0, .bool true, .int .i64 0]) (by simp [results, Try.results28, go_sem]) rfl ?_
      exact ⟨HBW.out _ HB4.out, .inr (.inl ⟨by rw [HP.out]; exact HR0.out, HF4.out (by trivial), rfl⟩)⟩
    | true =>
      have hI4 := HTT4.out (by trivial)
      have HL := Lib.hid (learnAll_any HP4.out hI4.1 (c := xc) HS0.out HX0'.out HB4.out HXL.out (by rw [HMN.out]; exact HV.out.2.2.2.2) (by rw [HMN.out]; exact HN.out))
      clear hI4
      go_wp2_with fail
      refine HL.out.mono ?_
      rintro e w5 ⟨b2, S5, rfl, ⟨f5, cv5, N5, s5, r5, vs5, hP5⟩, ht5, hf5, hB5⟩
      have HB5 := Lib.hid (HB4.out.trans hB5)
      have HP5 := Lib.hid hP5
      have HF5 := Lib.hid hf5
      have HTT5 := Lib.hid ht5
      clear hP5 ht5 hf5 hB5 HL
      cases b2 with
      | false =>
        go_wp2
        refine bodyPost_ret (v := .tuple #[.slice none 0 0, .bool true, .int .i64 0]) (by simp [results, Try.results28, go_sem]) rfl ?_
        exact ⟨HBW.out _ HB5.out, .inr (.inl ⟨by rw [HP.out]; exact HR0.out, HF5.out (by trivial), rfl⟩)⟩
      | true =>
        have hI5 := HTT5.out (by trivial)
        have HU := Lib.hid (run_any HP5.out hI5.1 (by rw [HMN.out]; exact HN.out) HTOT.out)
        clear hI5
        go_wp2_with fail
        refine HU.out.mono ?_
        rintro e w6 ⟨b3, S6, rfl, ⟨f6, cv6, N6, s6, r6, vs6, hP6⟩, ht6, hf6, hB6⟩
        have HB6 := Lib.hid (HB5.out.trans hB6)
        have HP6 := Lib.hid hP6
        have HF6 := Lib.hid hf6
        have HTT6 := Lib.hid ht6
        clear hP6 ht6 hf6 hB6 HU
        cases b3 with
        | false =>
          go_wp2
          refine bodyPost_ret (v := .tuple #[.slice none 0 0, .bool true, .int .i64 0]) (by simp [results, Try.results28, go_sem]) rfl ?_
          exact ⟨HBW.out _ HB6.out, .inr (.inl ⟨by rw [HP.out]; exact HR0.out, HF6.out (by trivial), rfl⟩)⟩
        | true =>
          have HFO : Hid (Follows n zss xs (litsOf S6.known)) := by
            have h1 := HTT6.out (by trivial)
            have h2 := follows_of h1.1 h1.2.1 fun x hx => h1.2.2 x ((HTT5.out (by trivial)).2 x hx)
            rw [HMN.out] at h2
            exact h2
          have HLI := Lib.hid (literals_any HP6.out (by rw [HMN.out]; exact HN.out))
          go_wp2_with fail
          refine HLI.out.mono ?_
          rintro e w7 ⟨v, rfl, hO, hB7⟩
          have HO := Lib.hid hO
          have HB7 := Lib.hid hB7
          clear hO hB7 HLI
          go_wp2
          refine bodyPost_ret (v := .tuple #[v, .bool false, .int .i64 0]) (by simp [results, Try.results28, go_sem]) rfl ?_
          have hsz := (HBW.out _ HB6.out).size
          exact ⟨(HBW.out _ HB6.out).trans (HB7.out.mono hsz), .inr (.inr ⟨by rw [HP.out]; exact HR0.out, v, _, HFO.out, rfl, ownMono HO.out hsz⟩)⟩
  · have e1 : (r != 0) = true := by simp [hr0]
    have HR0 := Lib.hid hr0
    clear hr0
    go_enter Try.func28, Try.ntmps28
    go_wp2_with fail
    refine (HPC.out _ (HR.out.alloc _) (HX.out.alloc _)).mono ?_
    rintro e w2 ⟨rfl, hB⟩
    have HB2 := Lib.hid ((boxed w (.cells #[.int .i64 n, .slice a zss.length c] 26)).trans (hB.mono (by simp)))
    clear hB
    go_wp2
    refine bodyPost_ret (v := .tuple #[.slice none 0 0, .bool false, .int .i64 r]) (by simp [results, Try.results28, go_sem]) rfl ?_
    exact ⟨HB2.out, .inl ⟨by rw [HP.out]; exact HR0.out, by rw [HP.out]⟩⟩
end Go.Proofs.Ytbljkbdbiceokaa
