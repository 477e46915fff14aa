/-
  OrderParts' walk.
-/
import Derived.Test.YtfighepopmaimaaOrdL
import Derived.WalkLawsBesides
namespace Go.Proofs.Ytfighepopmaimaa
open Go.RowKit Go.Lib
open Go.RowKit (Below)

/-- Behind the rounds down to k. -/
structure PartsTo (zs : List Int) (k : Nat) (A : Hs) : Prop where
  n : A.n = zs.length
  act : ∀ e, e < zs.length → A.act e = if k ≤ e then zs.getD e 0 else 0
  inn : ∀ e, k ≤ e → e < zs.length → A.inn e = true
theorem PartsTo.start {zs : List Int} {A : Hs} (h1 : A.n = zs.length) (h2 : A.act = fun _ => 0) : PartsTo zs zs.length A := ⟨h1, fun e he => by rw [h2, if_neg (by omega)], fun e h3 h4 => by omega⟩
theorem PartsTo.alike {zs : List Int} {A : Hs} (h : PartsTo zs 0 A) : Alike A (madeA zs) :=
  ⟨h.n, fun e he => by rw [h.n] at he; rw [h.act e he, if_pos (Nat.zero_le _)]; rfl, fun e he => by rw [h.n] at he; exact h.inn e (Nat.zero_le _) he⟩
theorem PartsTo.next {zs : List Int} {e : Nat} {A : Hs} (h : PartsTo zs (e + 1) A) (he : e < zs.length) {x f : Int} (hx : zs.getD e 0 = x) (h0 : 0 ≤ f) (h1 : f ≤ x) (h2 : x ≤ 65535) :
    A.bumpE ((e : Int) + 1) (x - f) = 0 ∧ (A.bumpA ((e : Int) + 1) (x - f)).pushE ((e : Int) + 1) = 0 ∧ ((A.bumpA ((e : Int) + 1) (x - f)).pushA ((e : Int) + 1)).bumpE ((e : Int) + 1) f = 0 ∧
      PartsTo zs e (((A.bumpA ((e : Int) + 1) (x - f)).pushA ((e : Int) + 1)).bumpA ((e : Int) + 1) f) := by
  have hn := h.n
  have ha : A.act e = 0 := by rw [h.act e he, if_neg (by omega)]
  obtain ⟨a1, a2⟩ := A.bumpE_good (e := e) (b := x - f) (by omega) (by omega) (by omega) (by rw [ha]; omega)
  rw [ha, Int.zero_add] at a2
  have hv : (A.bumpA ((e : Int) + 1) (x - f)).okV ((e : Int) + 1) = true := okV_nat (by rw [a2]; show e < A.n; omega)
  have b1 : (A.bumpA ((e : Int) + 1) (x - f)).pushE ((e : Int) + 1) = 0 := by unfold Hs.pushE; rw [hv]; rfl
  have b2 : (A.bumpA ((e : Int) + 1) (x - f)).pushA ((e : Int) + 1) = { A with act := upN A.act e (x - f), inn := upN A.inn e true } := by
    unfold Hs.pushA; rw [hv, if_pos rfl, natSub, a2]
  have hc : ((A.bumpA ((e : Int) + 1) (x - f)).pushA ((e : Int) + 1)).act e = x - f := by rw [b2]; exact upN_same _ _ _
  obtain ⟨c1, c2⟩ := ((A.bumpA ((e : Int) + 1) (x - f)).pushA ((e : Int) + 1)).bumpE_good (e := e) (b := f) (by rw [b2]; show e < A.n; omega) h0 (by omega) (by rw [hc]; omega)
  refine ⟨a1, b1, c1, ?_⟩
  rw [c2, hc, b2]
  refine ⟨hn, fun g hg => ?_, fun g hg hg2 => ?_⟩
  · show upN (upN A.act e (x - f)) e (x - f + f) g = _
    by_cases hge : g = e
    · subst hge; rw [upN_same, if_pos (Nat.le_refl _), hx]; omega
    · rw [upN_other _ _ hge, upN_other _ _ hge, h.act g hg]
      by_cases h3 : e ≤ g
      · rw [if_pos h3, if_pos (by omega)]
      · rw [if_neg h3, if_neg (by omega)]
  · show upN A.inn e true g = true
    by_cases hge : g = e
    · subst hge; rw [upN_same]
    · rw [upN_other _ _ hge]; exact h.inn g (by omega) hg2

set_option maxHeartbeats 8000000 in
theorem orderParts_walk (w : World) (a : Option Addr) (c : Nat) (zs : List Int) (hR : U16R w a zs) (hwf : ∀ x ∈ zs, (Lit.int .u16 x).wf = true) (hm : zs.length ≤ maxLen)
    (a2 : Option Addr) (c2 : Nat) (ys : List Int) (hR2 : U16R w a2 ys) (hwf2 : ∀ x ∈ ys, (Lit.int .u16 x).wf = true) (hm2 : ys.length ≤ maxLen) :
    Calls Try.prog 8 #[.slice a zs.length c, .slice a2 ys.length c2] w fun e w' => e = .returned (.bool true) ∧ Below w.heap.size w w' := by
  unfold maxLen at hm hm2
  by_cases hl : 100 < zs.length
  · have hK := Lib.hid (known_any w)
    clear hR hwf hR2 hwf2
    go_enter Try.func8, Try.ntmps8
    go_wp2_with (go_at_call 11; refine hK.out.mono ?_; rintro e w' ⟨rfl, hB⟩)
    go_ret
    exact ⟨rfl, hB⟩
  · have hs := Small.of hwf
    have hs2 := Small.of hwf2
    have hA : (madeA zs).n = zs.length := rfl
    have hn : (madeA zs).n ≤ 1000 := by rw [hA]; omega
    have H0 : Hid (St w [] w) := St.nil w
    have KM : Hid (∀ ps W', St w ps W' → Calls Try.prog 26 #[.slice a zs.length c] W' fun r w' => ∃ p, r = .returned (.pointer (some ⟨p, 0, none⟩)) ∧ St w (ps ++ [HP p (madeA zs)]) w') := fun ps W' h => h.made (hR.below h.bel) hs (by omega)
    have KN : Hid (∀ P W', St w [P] W' → Calls Try.prog 12 #[.int .i64 zs.length] W' fun r w' => ∃ p, r = .returned (.tuple #[.pointer (some ⟨p, 0, none⟩), .int .i64 0]) ∧ St w [P, HP p (Hs.new zs.length)] w') := fun P W' h => h.new (by omega)
    have KA0 : Hid (∀ P p W', St w [P, HP p (Hs.new zs.length)] W' → Calls Try.prog 27 #[.pointer (some ⟨p, 0, none⟩)] W' fun r w' => ∃ n a1 c1, r = .returned (.slice a1 n c1) ∧ ∃ A, St w [P, HP p A] w' ∧ PartsTo zs zs.length A) := fun P p W' h => by
      refine (h.all (i := 1) rfl (by show zs.length ≤ 1000; omega)).mono ?_
      rintro r w' ⟨a1, c1, hr, h9⟩
      refine ⟨_, a1, c1, hr, (Hs.new zs.length).emptied, ?_, PartsTo.start (emptied_n _) (emptied_act _)⟩
      refine h9.perm id (fun i P' hi => ?_) (fun i j _ _ h => h)
      match i, hi with
      | 0, hi => exact hi
      | 1, hi => exact hi
    have KB : Hid (∀ P p A v b W', St w [P, HP p A] W' → A.bumpE v b = 0 → Calls Try.prog 14 #[.pointer (some ⟨p, 0, none⟩), .int .i64 v, .int .i64 b] W' fun r w' => r = .returned (.int .i64 0) ∧ St w [P, HP p (A.bumpA v b)] w') := fun P p A v b W' h he => by
      have h9 := h.bump (i := 1) rfl v b
      rw [he] at h9; exact h9
    have KP : Hid (∀ P p A v W', St w [P, HP p A] W' → A.pushE v = 0 → Calls Try.prog 18 #[.pointer (some ⟨p, 0, none⟩), .int .i64 v] W' fun r w' => r = .returned (.int .i64 0) ∧ St w [P, HP p (A.pushA v)] w') := fun P p A v W' h he => by
      have h9 := h.push (i := 1) rfl v
      rw [he] at h9; exact h9
    have KA1 : Hid (∀ p1 P W', St w [HP p1 (madeA zs), P] W' → Calls Try.prog 27 #[.pointer (some ⟨p1, 0, none⟩)] W' fun r w' => ∃ a1 c1, r = .returned (.slice a1 (listOf (madeA zs)).length c1) ∧ St w [HP p1 (madeA zs).emptied, P, LS (.slice a1 (listOf (madeA zs)).length c1) (listOf (madeA zs))] w') := fun p1 P W' h => h.all (i := 0) rfl hn
    have KA2 : Hid (∀ P p A S W', St w [P, HP p A, S] W' → PartsTo zs 0 A → Calls Try.prog 27 #[.pointer (some ⟨p, 0, none⟩)] W' fun r w' => ∃ a1 c1, r = .returned (.slice a1 (listOf (madeA zs)).length c1) ∧ St w [P, HP p A.emptied, S, LS (.slice a1 (listOf (madeA zs)).length c1) (listOf (madeA zs))] w') := fun P p A S W' h hp => by
      have h9 := h.all (i := 1) rfl (by rw [hp.n]; omega)
      rw [hp.alike.list] at h9; exact h9
    have KS : Hid (∀ P1 P2 a1 c1 a2 c2 W', St w [P1, P2, LS (.slice a1 (listOf (madeA zs)).length c1) (listOf (madeA zs)), LS (.slice a2 (listOf (madeA zs)).length c2) (listOf (madeA zs))] W' → Calls Try.prog 28 #[.slice a1 (listOf (madeA zs)).length c1, .slice a2 (listOf (madeA zs)).length c2] W' fun r w' => r = .returned (.bool true) ∧ St w [P1, P2, LS (.slice a1 (listOf (madeA zs)).length c1) (listOf (madeA zs)), LS (.slice a2 (listOf (madeA zs)).length c2) (listOf (madeA zs))] w') := fun P1 P2 a1 c1 a2 c2 W' h => by
      refine (h.same (i := 2) (j := 3) hn rfl rfl rfl).mono ?_
      rintro r w' ⟨hr, hq⟩
      exact ⟨hr, h.quiet hq⟩
    have KK : Hid (∀ ps W', St w ps W' → Calls Try.prog 11 #[] W' fun r w' => r = .returned (.bool true) ∧ St w ps w') := fun ps W' h => by
      refine (known_any W').mono ?_
      rintro r w' ⟨hr, hb⟩
      exact ⟨hr, h.below hb⟩
    have HR := Lib.hid hR
    have HR2 := Lib.hid hR2
    have HS := Lib.hid hs
    have HS2 := Lib.hid hs2
    generalize listOf (madeA zs) = L at *
    generalize madeA zs = A at *
    have hll : ¬ (100 : Int) < (zs.length : Int) := by omega
    have hlz : (zs.length : Int) ≤ 100 := by omega
    clear hR hwf hs hA hn hl hR2 hwf2 hs2
    go_enter Try.func8, Try.ntmps8
    go_wp2_with (first | (go_at_call 26; ((with_reducible refine (KM.out [] _ H0.out).mono ?_); rintro r w1 ⟨p1, rfl, h⟩; have HC : Hid (St w [HP p1 A] w1) := h; clear h H0)) | (go_at_call 12; ((with_reducible refine (KN.out _ _ HC.out).mono ?_); rintro r w2 ⟨p2, rfl, h⟩; clear HC; have HC : Hid (St w [HP p1 A, HP p2 (Hs.new zs.length)] w2) := h; clear h)) | (go_at_call 27; ((with_reducible refine (KA0.out _ _ _ HC.out).mono ?_); rintro r w3 ⟨n3, a3, c3, rfl, A3, h, hp⟩; clear HC; have HC := Lib.hid h; have HP3 := Lib.hid hp; clear h hp)))
    go_loopw [8] (fun t wr => ∃ (k : Nat) (A3 : Hs), t = .int .i64 ((k : Int) - 1) ∧ k ≤ zs.length ∧ Hid (St w [HP p1 A, HP p2 A3] wr) ∧ Hid (PartsTo zs k A3)) (fun t _ => (intOf t + 1).toNat)
    case atStart => exact ⟨zs.length, A3, rfl, Nat.le_refl _, HC, HP3⟩
    case round =>
      obtain ⟨k, B, rfl, hk, HC4, HPT⟩ := hrel
      cases k with
      | zero =>
        clear HC HP3
        have KA2 := Lib.hid (fun P p S W' h => KA2.out P p B S W' h HPT.out)
        go_wp2_with (first | (go_at_call 27; ((with_reducible refine (KA1.out _ _ _ HC4.out).mono ?_); rintro r w6 ⟨a1, c1, rfl, h⟩; have HC := Lib.hid h; clear h HC4)) | (go_at_call 27; ((with_reducible refine (KA2.out _ _ _ _ HC.out).mono ?_); rintro r w7 ⟨a2, c2, rfl, h⟩; clear HC; have HC := Lib.hid h; clear h)) | (go_at_call 28; ((with_reducible refine (KS.out _ _ _ _ _ _ _ HC.out).mono ?_); rintro r w8 ⟨rfl, h⟩; clear HC; have HC := Lib.hid h; clear h)) | (go_at_call 11; ((with_reducible refine (KK.out _ _ HC.out).mono ?_); rintro r w10 ⟨rfl, h⟩; clear HC; have HC := Lib.hid h; clear h)))
        go_ret
        exact ⟨rfl, HC.out.bel⟩
      | succ e =>
        rw [show (((e + 1 : Nat) : Int) - 1) = (e : Int) by omega]
        have he : e < zs.length := by omega
        obtain ⟨b, off, ha, hcell⟩ := (HR.out.below HC4.out.bel).at he
        obtain ⟨x0, x1⟩ := HS.out e he
        have HNX := Lib.hid (fun (f : Int) (h0 : 0 ≤ f) (h1 : f ≤ zs.getD e 0) => HPT.out.next he rfl h0 h1 x1)
        generalize zs.getD e 0 = x at *
        have he0 : (0 : Int) ≤ (e : Int) := by omega
        have he1 : (e : Int) < (zs.length : Int) := by omega
        clear HC HP3
        by_cases hy : ys.length = 0
        · obtain ⟨n1, n2, n3, n4⟩ := HNX.out 0 (by omega) x0
          rw [Int.sub_zero] at n1 n2 n3 n4
          have N4 := Lib.hid n4
          have K1 := Lib.hid (fun P p W' h => KB.out P p B ((e : Int) + 1) x W' h n1)
          have K2 := Lib.hid (fun P p W' h => KP.out P p (B.bumpA ((e : Int) + 1) x) ((e : Int) + 1) W' h n2)
          have K3 := Lib.hid (fun P p W' h => KB.out P p ((B.bumpA ((e : Int) + 1) x).pushA ((e : Int) + 1)) ((e : Int) + 1) 0 W' h n3)
          have hy0 : decide ((0 : Int) < (ys.length : Int)) = false := decide_eq_false (by omega)
          have hy1 : ¬ 0 < ys.length := by omega
          clear n1 n2 n3 n4 hy
          subst ha
          go_wp2_with (first | (go_at_call 14; ((with_reducible refine (K1.out _ _ _ HC4.out).mono ?_); rintro r w6 ⟨rfl, h⟩; have HC := Lib.hid h; clear h)) | (go_at_call 18; ((with_reducible refine (K2.out _ _ _ HC.out).mono ?_); rintro r w7 ⟨rfl, h⟩; clear HC; have HC := Lib.hid h; clear h)) | (go_at_call 14; ((with_reducible refine (K3.out _ _ _ HC.out).mono ?_); rintro r w8 ⟨rfl, h⟩; clear HC; have HC := Lib.hid h; clear h)))
          go_roundw
          case rel => exact ⟨e, _, by go_num, by omega, HC, N4⟩
          case measure => simp [intOf]
        · have hm0 : 0 < ys.length := by omega
          obtain ⟨j, hj⟩ : ∃ j, e % ys.length = j := ⟨_, rfl⟩
          have hjl : j < ys.length := by rw [← hj]; exact Nat.mod_lt _ hm0
          obtain ⟨b2, off2, ha2, hcell2⟩ := (HR2.out.below HC4.out.bel).at hjl
          obtain ⟨y0, y1⟩ := HS2.out j hjl
          generalize ys.getD j 0 = y at *
          have hmi : (ys.length : Int) ≤ 9223372036854775807 := by omega
          have hmp : (0 : Int) < (ys.length : Int) := by omega
          have hrem : (e : Int) % (ys.length : Int) = (j : Int) := by rw [← hj]; rfl
          have hj0 : (0 : Int) ≤ (j : Int) := by omega
          have hj1 : (j : Int) < (ys.length : Int) := by omega
          have hmne : ¬ (ys.length : Int) = 0 := by omega
          clear hj hm2
          subst ha ha2
          by_cases hlt : y ≤ x
          · obtain ⟨n1, n2, n3, n4⟩ := HNX.out y y0 hlt
            have N4 := Lib.hid n4
            have K1 := Lib.hid (fun P p W' h => KB.out P p B ((e : Int) + 1) (x - y) W' h n1)
            have K2 := Lib.hid (fun P p W' h => KP.out P p (B.bumpA ((e : Int) + 1) (x - y)) ((e : Int) + 1) W' h n2)
            have K3 := Lib.hid (fun P p W' h => KB.out P p ((B.bumpA ((e : Int) + 1) (x - y)).pushA ((e : Int) + 1)) ((e : Int) + 1) y W' h n3)
            have hw1 : IntKind.u16.wrap (x - y) = x - y := by simp [IntKind.wrap, IntKind.bits, IntKind.signed]; omega
            have hw2 : (0 : Int) ≤ x - y := by omega
            clear n1 n2 n3 n4 hy
            go_wp2
            go_quiet (fail)
            have HC5 := Lib.hid (HC4.out.quiet ⟨nq, rfl⟩)
            go_wp2_with (first | (go_at_call 14; ((with_reducible refine (K1.out _ _ _ HC5.out).mono ?_); rintro r w6 ⟨rfl, h⟩; have HC := Lib.hid h; clear h)) | (go_at_call 18; ((with_reducible refine (K2.out _ _ _ HC.out).mono ?_); rintro r w7 ⟨rfl, h⟩; clear HC; have HC := Lib.hid h; clear h)) | (go_at_call 14; ((with_reducible refine (K3.out _ _ _ HC.out).mono ?_); rintro r w8 ⟨rfl, h⟩; clear HC; have HC := Lib.hid h; clear h)))
            go_roundw
            case rel => exact ⟨e, _, by go_num, by omega, HC, N4⟩
            case measure => simp [intOf]
          · obtain ⟨n1, n2, n3, n4⟩ := HNX.out x x0 (Int.le_refl _)
            rw [Int.sub_self] at n1 n2 n3 n4
            have N4 := Lib.hid n4
            have K1 := Lib.hid (fun P p W' h => KB.out P p B ((e : Int) + 1) 0 W' h n1)
            have K2 := Lib.hid (fun P p W' h => KP.out P p (B.bumpA ((e : Int) + 1) 0) ((e : Int) + 1) W' h n2)
            have K3 := Lib.hid (fun P p W' h => KB.out P p ((B.bumpA ((e : Int) + 1) 0).pushA ((e : Int) + 1)) ((e : Int) + 1) x W' h n3)
            have hxy : x < y := by omega
            have hxy2 : ¬ y < x := by omega
            clear n1 n2 n3 n4 hy
            go_wp2
            go_quiet (fail)
            have HC5 := Lib.hid (HC4.out.quiet ⟨nq, rfl⟩)
            go_wp2_with (first | (go_at_call 14; ((with_reducible refine (K1.out _ _ _ HC5.out).mono ?_); rintro r w6 ⟨rfl, h⟩; have HC := Lib.hid h; clear h)) | (go_at_call 18; ((with_reducible refine (K2.out _ _ _ HC.out).mono ?_); rintro r w7 ⟨rfl, h⟩; clear HC; have HC := Lib.hid h; clear h)) | (go_at_call 14; ((with_reducible refine (K3.out _ _ _ HC.out).mono ?_); rintro r w8 ⟨rfl, h⟩; clear HC; have HC := Lib.hid h; clear h)))
            go_roundw
            case rel => exact ⟨e, _, by go_num, by omega, HC, N4⟩
            case measure => simp [intOf]
end Go.Proofs.Ytfighepopmaimaa
