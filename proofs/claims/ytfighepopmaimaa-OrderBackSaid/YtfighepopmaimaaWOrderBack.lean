/-
  OrderBack's walk.
-/
import Derived.Test.YtfighepopmaimaaOrdM
namespace Go.Proofs.Ytfighepopmaimaa
open Go.RowKit Go.Lib
open Go.RowKit (Below)

/-- The one that is pushed in round j. -/
def pickP (P : List Nat) (k : Nat) (turned : Bool) (j : Nat) : Nat := if turned then P.getD (k - 1 - j) 0 else P.getD j 0
/-- Behind j rounds of pushes. -/
structure PushTo (A : Hs) (P : List Nat) (k : Nat) (turned : Bool) (j : Nat) (B : Hs) : Prop where
  n : B.n = A.n
  act : B.act = A.act
  inn : ∀ e, e < A.n → (e ∉ P.take k ∨ ∃ i, i < j ∧ e = pickP P k turned i) → B.inn e = true
theorem PushTo.next {A B : Hs} {P : List Nat} {k j : Nat} {turned : Bool} (h : PushTo A P k turned j B) {e : Nat} (he : e < A.n) (hp : pickP P k turned j = e) :
    B.pushE ((e : Int) + 1) = 0 ∧ (B.pushA ((e : Int) + 1)).pushE ((e : Int) + 1) = 0 ∧ ((B.pushA ((e : Int) + 1)).pushA ((e : Int) + 1)).hasB ((e : Int) + 1) = true ∧ PushTo A P k turned (j + 1) ((B.pushA ((e : Int) + 1)).pushA ((e : Int) + 1)) := by
  have hv : B.okV ((e : Int) + 1) = true := okV_nat (by rw [h.n]; exact he)
  have e1 : B.pushA ((e : Int) + 1) = { B with inn := upN B.inn e true } := by unfold Hs.pushA; rw [hv, if_pos rfl, natSub]
  have hv2 : (B.pushA ((e : Int) + 1)).okV ((e : Int) + 1) = true := by rw [e1]; exact hv
  have e2 : (B.pushA ((e : Int) + 1)).pushA ((e : Int) + 1) = { B with inn := upN (upN B.inn e true) e true } := by
    conv => lhs; unfold Hs.pushA
    rw [show (if B.okV ((e : Int) + 1) = true then { B with inn := upN B.inn ((e : Int) + 1 - 1).toNat true } else B) = B.pushA ((e : Int) + 1) from rfl, hv2, if_pos rfl, natSub, e1]
  refine ⟨by unfold Hs.pushE; rw [hv]; rfl, by unfold Hs.pushE; rw [hv2]; rfl, ?_, ?_⟩
  · rw [e2]
    unfold Hs.hasB
    rw [show Hs.okV { B with inn := upN (upN B.inn e true) e true } ((e : Int) + 1) = B.okV ((e : Int) + 1) from rfl, hv, natSub]
    show (true && upN (upN B.inn e true) e true e) = true
    rw [upN_same]; rfl
  · rw [e2]
    refine ⟨h.n, h.act, fun f hf hc => ?_⟩
    show upN (upN B.inn e true) e true f = true
    by_cases hfe : f = e
    · subst hfe; rw [upN_same]
    · rw [upN_other _ _ hfe, upN_other _ _ hfe]
      refine h.inn f hf ?_
      rcases hc with hc | ⟨i, hi, hie⟩
      · exact .inl hc
      · right
        by_cases hij : i = j
        · subst hij; exact absurd (hie.trans hp) hfe
        · exact ⟨i, by omega, hie⟩
theorem PushTo.done {A B : Hs} {P : List Nat} {k : Nat} {turned : Bool} (h : PushTo A P k turned k B) (hk : k ≤ P.length) (hA : ∀ e, e < A.n → A.inn e = true) : Alike B A ∧ B.lenN = (A.cnt A.n : Int) := by
  have hall : ∀ e, e < A.n → B.inn e = true := fun e he => by
    by_cases hm : e ∈ P.take k
    · refine h.inn e he (.inr ?_)
      obtain ⟨i, hi, hie⟩ := List.getElem_of_mem hm
      rw [List.length_take] at hi
      rw [List.getElem_take] at hie
      cases turned with
      | false => exact ⟨i, by omega, by unfold pickP; rw [if_neg (by decide), List.getD_eq_getElem?_getD, List.getElem?_eq_getElem (by omega)]; exact hie.symm⟩
      | true =>
        refine ⟨k - 1 - i, by omega, ?_⟩
        unfold pickP
        rw [if_pos rfl, show k - 1 - (k - 1 - i) = i by omega, List.getD_eq_getElem?_getD, List.getElem?_eq_getElem (by omega)]; exact hie.symm
    · exact h.inn e he (.inl hm)
  refine ⟨⟨h.n, fun e _ => by rw [h.act], fun e he => ?_⟩, ?_⟩
  · rw [h.n] at he; rw [hall e he, hA e he]
  · unfold Hs.lenN Hs.cnt
    rw [h.n]
    congr 2
    refine List.filter_congr fun e he => ?_
    rw [hall e (List.mem_range.1 he), hA e (List.mem_range.1 he)]
theorem PushTo.start {A : Hs} {k : Nat} {turned : Bool} (hk : k ≤ (Hs.popAll A).length) (hA : ∀ e, e < A.n → A.inn e = true) : PushTo A (Hs.popAll A) k turned 0 (A.after k) :=
  ⟨Hs.after_n _ _, after_act _ _, fun e he hc => by
    rw [after_inn k A A.n hk e, hA e he]
    rcases hc with hc | ⟨i, hi, _⟩
    · have : e ∉ (Hs.popL A.n A).take k := hc
      simp [this]
    · omega⟩

set_option maxRecDepth 100000 in
set_option maxHeartbeats 16000000 in
theorem orderBack_walk (w : World) (a : Option Addr) (c : Nat) (zs : List Int) (hR : U16R w a zs) (hwf : ∀ x ∈ zs, (Lit.int .u16 x).wf = true) (hm : zs.length ≤ maxLen) (n : Int) (hnw : (Lit.int .u8 n).wf = true) (turned : Bool) :
    Calls Try.prog 7 #[.slice a zs.length c, .int .u8 n, .bool turned] w fun e w' => e = .returned (.bool true) ∧ Below w.heap.size w w' := by
  unfold maxLen at hm
  by_cases hl : 100 < zs.length
  · have hK := Lib.hid (known_any w)
    clear hR hwf
    go_enter Try.func7, Try.ntmps7
    go_wp2_with (go_at_call 11; refine hK.out.mono ?_; rintro e w' ⟨rfl, hB⟩)
    go_ret
    exact ⟨rfl, hB⟩
  · simp [Lit.wf, IntKind.min, IntKind.max, IntKind.bits, IntKind.signed] at hnw
    obtain ⟨n0, rfl⟩ : ∃ m : Nat, n = (m : Int) := ⟨n.toNat, by omega⟩
    have hn255 : (n0 : Int) ≤ 255 := by omega
    have hs := Small.of hwf
    have hA : (madeA zs).n = zs.length := rfl
    have hAi : ∀ e, e < (madeA zs).n → (madeA zs).inn e = true := fun _ _ => rfl
    have hn : (madeA zs).n ≤ 1000 := by rw [hA]; omega
    have hPl : (Hs.popAll (madeA zs)).length = zs.length := by rw [(Hs.popAll_end _).2]; exact made_cnt zs
    obtain ⟨k, hk⟩ : ∃ k, n0 % (zs.length + 1) = k := ⟨_, rfl⟩
    have hkl : k ≤ zs.length := by have := Nat.mod_lt n0 (show 0 < zs.length + 1 by omega); omega
    have H0 : Hid (St w [] w) := St.nil w
    have KM : Hid (∀ ps W', St w ps W' → Calls Try.prog 26 #[.slice a zs.length c] W' fun r w' => ∃ p, r = .returned (.pointer (some ⟨p, 0, none⟩)) ∧ St w (ps ++ [HP p (madeA zs)]) w') := fun ps W' h => h.made (hR.below h.bel) hs (by omega)
    have KA : Hid (∀ P1 p W', St w [P1, HP p (madeA zs)] W' → Calls Try.prog 27 #[.pointer (some ⟨p, 0, none⟩)] W' fun r w' => ∃ a1 c1, r = .returned (.slice a1 zs.length c1) ∧ St w [P1, HP p (madeA zs).emptied, LS (.slice a1 zs.length c1) (listOf (madeA zs))] w') := fun P1 p W' h => by
      have h9 := h.all (i := 1) rfl hn
      rw [made_len] at h9; exact h9
    have KP : Hid (∀ (i e : Nat), (Hs.popAll (madeA zs))[i]? = some e → ∀ p P2 P3 P4 W', St w [HP p ((madeA zs).after i), P2, P3, P4] W' → Calls Try.prog 16 #[.pointer (some ⟨p, 0, none⟩)] W' fun r w' => r = .returned (.tuple #[.int .i64 ((e : Int) + 1), .int .i64 0]) ∧ St w [HP p ((madeA zs).after (i + 1)), P2, P3, P4] w') := fun i e he p P2 P3 P4 W' h => by
      have h9 := h.pop (i := 0) rfl
      have hb := popL_best _ _ i e he
      unfold Hs.popV Hs.popE at h9
      rw [hb, ← Hs.after_succ] at h9
      exact h9
    have KH : Hid (∀ (i e : Nat), (Hs.popAll (madeA zs))[i]? = some e → ∀ p P2 P3 P4 W', St w [HP p ((madeA zs).after (i + 1)), P2, P3, P4] W' → Calls Try.prog 20 #[.pointer (some ⟨p, 0, none⟩), .int .i64 ((e : Int) + 1)] W' fun r w' => r = .returned (.bool false) ∧ W' = w') := fun i e he p P2 P3 P4 W' h => by
      have h9 := h.has (i := 0) rfl ((e : Int) + 1)
      have hz : ((madeA zs).after (i + 1)).hasB ((e : Int) + 1) = false := by
        unfold Hs.hasB
        rw [natSub, Hs.after_succ, Hs.popA_inn (popL_best _ _ i e he)]
        show (_ && upN _ e false e) = false
        rw [upN_same, Bool.and_false]
      rw [hz] at h9; exact h9
    have KL : Hid (∀ i, i < zs.length → ∀ p P2 P3 P4 W', St w [HP p ((madeA zs).after (i + 1)), P2, P3, P4] W' → Calls Try.prog 22 #[.pointer (some ⟨p, 0, none⟩)] W' fun r w' => r = .returned (.int .i64 ((zs.length : Int) - (i : Int) - 1)) ∧ W' = w') := fun i hi p P2 P3 P4 W' h => by
      have h9 := h.len (i := 0) rfl
      rw [lenN_after (by rw [hPl]; omega), show (madeA zs).cnt (madeA zs).n = zs.length from made_cnt zs, show (zs.length : Int) - ((i + 1 : Nat) : Int) = (zs.length : Int) - (i : Int) - 1 by omega] at h9; exact h9
    have KU : Hid (∀ p B v P2 P3 P4 W', St w [HP p B, P2, P3, P4] W' → B.pushE v = 0 → Calls Try.prog 18 #[.pointer (some ⟨p, 0, none⟩), .int .i64 v] W' fun r w' => r = .returned (.int .i64 0) ∧ St w [HP p (B.pushA v), P2, P3, P4] w') := fun p B v P2 P3 P4 W' h he => by
      have h9 := h.push (i := 0) rfl v
      rw [he] at h9; exact h9
    have KH2 : Hid (∀ p B v P2 P3 P4 W', St w [HP p B, P2, P3, P4] W' → B.hasB v = true → Calls Try.prog 20 #[.pointer (some ⟨p, 0, none⟩), .int .i64 v] W' fun r w' => r = .returned (.bool true) ∧ W' = w') := fun p B v P2 P3 P4 W' h he => by
      have h9 := h.has (i := 0) rfl v
      rw [he] at h9; exact h9
    have KL2 : Hid (∀ p B P2 P3 P4 W', PushTo (madeA zs) (Hs.popAll (madeA zs)) k turned k B → St w [HP p B, P2, P3, P4] W' → Calls Try.prog 22 #[.pointer (some ⟨p, 0, none⟩)] W' fun r w' => r = .returned (.int .i64 (zs.length : Int)) ∧ W' = w') := fun p B P2 P3 P4 W' hp h => by
      have h9 := h.len (i := 0) rfl
      rw [(hp.done (by rw [hPl]; exact hkl) hAi).2, show (madeA zs).cnt (madeA zs).n = zs.length from made_cnt zs] at h9; exact h9
    have KA2 : Hid (∀ p B P2 P3 P4 W', PushTo (madeA zs) (Hs.popAll (madeA zs)) k turned k B → St w [HP p B, P2, P3, P4] W' → Calls Try.prog 27 #[.pointer (some ⟨p, 0, none⟩)] W' fun r w' => ∃ a1 c1, r = .returned (.slice a1 zs.length c1) ∧ St w [HP p B.emptied, P2, P3, P4, LS (.slice a1 zs.length c1) (listOf (madeA zs))] w') := fun p B P2 P3 P4 W' hp h => by
      have h9 := h.all (i := 0) rfl (by rw [hp.n]; exact hn)
      rw [(hp.done (by rw [hPl]; exact hkl) hAi).1.list, made_len] at h9; exact h9
    have KS : Hid (∀ P1 P2 a1 c1 P4 a2 c2 W', St w [P1, P2, LS (.slice a1 zs.length c1) (listOf (madeA zs)), P4, LS (.slice a2 zs.length c2) (listOf (madeA zs))] W' → Calls Try.prog 28 #[.slice a2 zs.length c2, .slice a1 zs.length c1] W' fun r w' => r = .returned (.bool true) ∧ St w [P1, P2, LS (.slice a1 zs.length c1) (listOf (madeA zs)), P4, LS (.slice a2 zs.length c2) (listOf (madeA zs))] w') := fun P1 P2 a1 c1 P4 a2 c2 W' h => by
      have h8 := h
      rw [← made_len zs] at h8
      have h9 := h8.same (i := 4) (j := 2) hn rfl rfl rfl
      rw [made_len] at h9
      refine h9.mono ?_
      rintro r w' ⟨hr, hq⟩
      exact ⟨hr, h.quiet hq⟩
    have KK : Hid (∀ ps W', St w ps W' → Calls Try.prog 11 #[] W' fun r w' => r = .returned (.bool true) ∧ St w ps w') := fun ps W' h => by
      refine (known_any W').mono ?_
      rintro r w' ⟨hr, hb⟩
      exact ⟨hr, h.below hb⟩
    have HAT : Hid (∀ i, i < zs.length → ∃ e, (Hs.popAll (madeA zs))[i]? = some e ∧ (listOf (madeA zs)).getD i 0 = (e : Int) + 1 ∧ e < zs.length) := fun i hi => listOf_at (A := madeA zs) (by rw [made_len]; exact hi)
    have HLN : Hid ((listOf (madeA zs)).length = zs.length) := made_len zs
    have HST : Hid (PushTo (madeA zs) (Hs.popAll (madeA zs)) k turned 0 ((madeA zs).after k)) := PushTo.start (by rw [hPl]; exact hkl) hAi
    have HN : Hid ((madeA zs).n = zs.length) := hA
    have HZ : Hid ((madeA zs).after 0 = madeA zs) := rfl
    have hrem : (n0 : Int) % ((zs.length : Int) + 1) = (k : Int) := by rw [← hk]; rfl
    generalize listOf (madeA zs) = L at *
    generalize Hs.popAll (madeA zs) = P at *
    generalize madeA zs = A at *
    have hll : ¬ (100 : Int) < (zs.length : Int) := by omega
    have hlz : (zs.length : Int) ≤ 100 := by omega
    have hne : ¬ ((zs.length : Int) + 1 = 0) := by omega
    have hk0 : (k : Int) ≤ (zs.length : Int) := by omega
    obtain ⟨i0, hi, hz0, hz1, hz2⟩ := info_parts Try.infoInt
    have HKL := Lib.hid hkl
    clear hR hwf hs hA hn hl hk hAi hPl hkl hnw hm
    go_enter Try.func7, Try.ntmps7
    go_wp2_with (first | (go_at_call 26; ((with_reducible refine (KM.out [] _ H0.out).mono ?_); rintro r w1 ⟨p1, rfl, h⟩; have HC : Hid (St w [HP p1 A] w1) := h; clear h H0)) | (go_at_call 26; ((with_reducible refine (KM.out [HP p1 A] _ HC.out).mono ?_); rintro r w2 ⟨p2, rfl, h⟩; clear HC; have HC : Hid (St w [HP p1 A, HP p2 A] w2) := h; clear h)) | (go_at_call 27; ((with_reducible refine (KA.out _ _ _ HC.out).mono ?_); rintro r w3 ⟨a1, c1, rfl, h⟩; clear HC; have HC := Lib.hid h; clear h)))
    have HC1 : Hid (St w [HP p1 (A.after 0), HP p2 A.emptied, LS (.slice a1 zs.length c1) L, LS (.slice none 0 0) (L.take 0)] w3) := by rw [HZ.out]; exact HC.out.nilList
    rw [hrem]
    clear hrem
    go_loopw [11, 12] (fun o t wr => ∃ (i : Nat) (ao : Option Addr) (co : Nat), t = .int .i64 i ∧ o = .slice ao i co ∧ i ≤ k ∧ Hid (St w [HP p1 (A.after i), HP p2 A.emptied, LS (.slice a1 zs.length c1) L, LS (.slice ao i co) (L.take i)] wr)) (fun _ t _ => k - (intOf t).toNat)
    case atStart => exact ⟨0, none, 0, rfl, rfl, Nat.zero_le _, HC1⟩
    case round =>
      obtain ⟨i, ao, co, rfl, rfl, hik, HC2⟩ := hrel
      clear HC HC1
      by_cases hlt : i < k
      · have hil : i < zs.length := by have := HKL.out; omega
        obtain ⟨e, he, hLe, hen⟩ := HAT.out i hil
        have KP1 := Lib.hid (KP.out i e he)
        have KH1 := Lib.hid (KH.out i e he)
        have KL1 := Lib.hid (KL.out i hil)
        have HTK : Hid (L.take (i + 1) = L.take i ++ [(e : Int) + 1]) := by
          have h9 : i < L.length := by rw [HLN.out]; exact hil
          have h8 := getD_some L 0 i h9
          rw [hLe, List.getElem?_eq_getElem h9] at h8
          injection h8 with h8
          unfold Hid
          rw [List.take_succ_eq_append_getElem h9, h8]
        have HTL : Hid ((L.take i).length = i) := by unfold Hid; rw [List.length_take, HLN.out]; omega
        have HWC : Hid (∀ P1 P2 P4 W', St w [P1, P2, LS (.slice a1 zs.length c1) L, P4] W' → ∃ b o, a1 = some ⟨b, o, none⟩ ∧ W'.cell? ⟨b, o + i, none⟩ = some (.int .i64 ((e : Int) + 1))) := fun P1 P2 P4 W' h => by
          obtain ⟨b, o, x, h1, h2, h3⟩ := (h.ints (i := 2) rfl).1.at (k := i) (by rw [HLN.out]; exact hil)
          have h4 := h2.out
          rw [getD_some L 0 i (by rw [HLN.out]; exact hil), hLe] at h4
          injection h4 with h4
          subst h4
          exact ⟨b, o, h1, h3⟩
        have hiI : (i : Int) < (zs.length : Int) := by omega
        have hi1 : (i : Int) ≤ 100 := by omega
        have heI : (e : Int) ≤ 100 := by omega
        have HE := Lib.hid he
        obtain ⟨bw, ow, ha1, hcw⟩ := HWC.out _ _ _ _ HC2.out
        subst ha1
        clear he hLe hcw
        go_wp2_with (first | (go_at_call 16; ((with_reducible refine (KP1.out _ _ _ _ _ HC2.out).mono ?_); rintro r w4 ⟨rfl, h⟩; have HC := Lib.hid h; have hcw : w4.cell? ⟨bw, ow + i, none⟩ = some (.int .i64 ((e : Int) + 1)) := (by obtain ⟨b9, o9, h7, h8⟩ := HWC.out _ _ _ _ h; cases h7; exact h8); clear h)) | (go_at_call 20; ((with_reducible refine (KH1.out _ _ _ _ _ HC.out).mono ?_); rintro r w5 ⟨rfl, rfl⟩)) | (go_at_call 22; ((with_reducible refine (KL1.out _ _ _ _ _ HC.out).mono ?_); rintro r w6 ⟨rfl, rfl⟩)) | (at_builtin; refine wpList_append_own_at _ rfl _ _ 45 rfl 0 3 i0 (.int .i64 0) 1 8 Try.underlying45 hi hz0 hz1 hz2 rfl (by decide) (.slice ao i co) i ((L.take i).map (Value.int .i64)) rfl ?c0 ⟨w4.heap.size, 0, none⟩ 1 1 [.int .i64 ((e : Int) + 1)] rfl rfl (one_new (by simp)) one_int ?c3 ?c4 ?c5 ?_))
        case c0 => have h6 := HC.out.rowOf (i := 3) rfl (.cells #[.int .i64 ((e : Int) + 1)] 3); rw [HTL.out] at h6; exact h6
        case c3 => unfold maxLen; omega
        case c4 => omega
        case c5 => exact Nat.zero_le _
        intro v' w7 hown hgrow _ hat
        obtain ⟨g, cap, rfl⟩ := Go.Joins.ownsRow_form hown (by omega)
        have H5 : Hid (St w [HP p1 (A.after (i + 1)), HP p2 A.emptied, LS (.slice (some ⟨bw, ow, none⟩) zs.length c1) L, LS (.slice (some ⟨g, 0, none⟩) (i + 1) cap) (L.take (i + 1))] w7) := by
          have h9 := HC.out.append (i := 3) rfl (v' := .slice (some ⟨g, 0, none⟩) (i + 1) cap) (x := (e : Int) + 1) (by rw [HTL.out, List.map_take]; exact hown) hgrow (by simpa using hat)
          rw [← HTK.out] at h9; exact h9
        clear hown hgrow hat hcw
        go_wp2
        go_roundw
        case rel => exact ⟨i + 1, _, _, by go_num, rfl, by omega, H5⟩
        case measure => simp [intOf]; omega
      · obtain rfl : i = k := by omega
        have HIL : Hid (i ≤ zs.length) := HKL.out
        clear hlt
        go_wp2
        go_loopw [15] (fun t wi => ∃ (j : Nat) (B : Hs), t = .int .i64 j ∧ j ≤ i ∧ Hid (St w [HP p1 B, HP p2 A.emptied, LS (.slice a1 zs.length c1) L, LS (.slice ao i co) (L.take i)] wi) ∧ Hid (PushTo A P i turned j B)) (fun t _ => i - (intOf t).toNat)
        case atStart => exact ⟨0, _, rfl, Nat.zero_le _, HC2, HST⟩
        case round =>
          obtain ⟨j, B, rfl, hj, HC3, HPT⟩ := hrel
          clear HC2
          by_cases hlt : j < i
          · have hjl : j < zs.length := by have := HIL.out; omega
            obtain ⟨q, hq⟩ : ∃ q, i - 1 - j = q := ⟨_, rfl⟩
            have hqi : q < i := by omega
            have hql : q < zs.length := by have := HIL.out; omega
            have hqI : (i : Int) - 1 - (j : Int) = (q : Int) := by omega
            have hqW : IntKind.i64.wrap ((i : Int) - 1 - (j : Int)) = (q : Int) := by rw [hqI]; exact IntWalk.i64_in _ (by omega)
            obtain ⟨d, hd, hLd, hdn⟩ := HAT.out j hjl
            obtain ⟨e, he, hLe, hen⟩ := HAT.out q hql
            have hI := (HC3.out.ints (i := 3) rfl).1
            have HTL : Hid ((L.take i).length = i) := by have := HIL.out; unfold Hid; rw [List.length_take, HLN.out]; omega
            have hcell : ∀ m z, m < i → L.getD m 0 = z → ∃ b o, ao = some ⟨b, o, none⟩ ∧ wr.cell? ⟨b, o + m, none⟩ = some (.int .i64 z) := fun m z hm hz => by
              obtain ⟨b, o, x, h1, h2, h3⟩ := hI.at (k := m) (by rw [HTL.out]; exact hm)
              have h4 := h2.out
              rw [List.getElem?_take_of_lt hm, getD_some L 0 m (by have := HIL.out; rw [HLN.out]; omega), hz] at h4
              injection h4 with h4
              subst h4
              exact ⟨b, o, h1, h3⟩
            obtain ⟨b, o, hao, hcd⟩ := hcell j _ hlt hLd
            obtain ⟨b', o', hao', hce⟩ := hcell q _ hqi hLe
            have hsame : b' = b ∧ o' = o := by rw [hao] at hao'; cases hao'; exact ⟨rfl, rfl⟩
            obtain ⟨rfl, rfl⟩ := hsame
            have hj1 : (j : Int) < (i : Int) := by omega
            have hq0 : (0 : Int) ≤ (q : Int) := by omega
            have hq1 : (q : Int) < (i : Int) := by omega
            have hi1 : (i : Int) ≤ 100 := by omega
            have HLT := Lib.hid hlt
            cases turned with
            | false =>
              obtain ⟨n1, n2, n3, n4⟩ := HPT.out.next (e := d) (by rw [HN.out]; exact hdn) (by unfold pickP; rw [if_neg (by decide), List.getD_eq_getElem?_getD, hd]; rfl)
              have N4 := Lib.hid n4
              have K1 := Lib.hid (fun P2 P3 P4 W' h => KU.out p1 B ((d : Int) + 1) P2 P3 P4 W' h n1)
              have K2 := Lib.hid (fun P2 P3 P4 W' h => KU.out p1 (B.pushA ((d : Int) + 1)) ((d : Int) + 1) P2 P3 P4 W' h n2)
              have K3 := Lib.hid (fun P2 P3 P4 W' h => KH2.out p1 ((B.pushA ((d : Int) + 1)).pushA ((d : Int) + 1)) ((d : Int) + 1) P2 P3 P4 W' h n3)
              subst hao
              clear n1 n2 n3 n4 hao' hce hcell hI hq hqI hqW hqi hql hq0 hq1 hd he hLd hLe hlt
              go_wp2_with (first | (go_at_call 18; ((with_reducible refine (K1.out _ _ _ _ HC3.out).mono ?_); rintro r w5 ⟨rfl, h⟩; have HC := Lib.hid h; clear h)) | (go_at_call 18; ((with_reducible refine (K2.out _ _ _ _ HC.out).mono ?_); rintro r w6 ⟨rfl, h⟩; clear HC; have HC := Lib.hid h; clear h)) | (go_at_call 20; ((with_reducible refine (K3.out _ _ _ _ HC.out).mono ?_); rintro r w7 ⟨rfl, rfl⟩)))
              go_roundw
              case rel => exact ⟨j + 1, _, by go_num, by omega, HC, N4⟩
              case measure => have := HLT.out; simp [intOf]; omega
            | true =>
              obtain ⟨n1, n2, n3, n4⟩ := HPT.out.next (e := e) (by rw [HN.out]; exact hen) (by unfold pickP; rw [if_pos rfl, hq, List.getD_eq_getElem?_getD, he]; rfl)
              have N4 := Lib.hid n4
              have K1 := Lib.hid (fun P2 P3 P4 W' h => KU.out p1 B ((e : Int) + 1) P2 P3 P4 W' h n1)
              have K2 := Lib.hid (fun P2 P3 P4 W' h => KU.out p1 (B.pushA ((e : Int) + 1)) ((e : Int) + 1) P2 P3 P4 W' h n2)
              have K3 := Lib.hid (fun P2 P3 P4 W' h => KH2.out p1 ((B.pushA ((e : Int) + 1)).pushA ((e : Int) + 1)) ((e : Int) + 1) P2 P3 P4 W' h n3)
              subst hao
              clear n1 n2 n3 n4 hao' hcell hI hq hqi hql hd he hLd hLe hlt
              go_wp2_with (first | (go_at_call 18; ((with_reducible refine (K1.out _ _ _ _ HC3.out).mono ?_); rintro r w5 ⟨rfl, h⟩; have HC := Lib.hid h; clear h)) | (go_at_call 18; ((with_reducible refine (K2.out _ _ _ _ HC.out).mono ?_); rintro r w6 ⟨rfl, h⟩; clear HC; have HC := Lib.hid h; clear h)) | (go_at_call 20; ((with_reducible refine (K3.out _ _ _ _ HC.out).mono ?_); rintro r w7 ⟨rfl, rfl⟩)))
              go_roundw
              case rel => exact ⟨j + 1, _, by go_num, by omega, HC, N4⟩
              case measure => have := HLT.out; simp [intOf]; omega
          · obtain rfl : j = i := by omega
            have KL2 := Lib.hid (fun P2 P3 P4 W' => KL2.out p1 B P2 P3 P4 W' HPT.out)
            have KA2 := Lib.hid (fun P2 P3 P4 W' => KA2.out p1 B P2 P3 P4 W' HPT.out)
            clear hlt
            go_wp2_with (first | (go_at_call 22; ((with_reducible refine (KL2.out _ _ _ _ HC3.out).mono ?_); rintro r w5 ⟨rfl, rfl⟩)) | (go_at_call 27; ((with_reducible refine (KA2.out _ _ _ _ HC3.out).mono ?_); rintro r w6 ⟨a5, c5, rfl, h⟩; have HC := Lib.hid h; clear h)) | (go_at_call 28; ((with_reducible refine (KS.out _ _ _ _ _ _ _ _ HC.out).mono ?_); rintro r w8 ⟨rfl, h⟩; clear HC; have HC := Lib.hid h; clear h)) | (go_at_call 11; ((with_reducible refine (KK.out _ _ HC.out).mono ?_); rintro r w10 ⟨rfl, h⟩; clear HC; have HC := Lib.hid h; clear h)))
            go_ret
            exact ⟨rfl, HC.out.bel⟩
end Go.Proofs.Ytfighepopmaimaa
