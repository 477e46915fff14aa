/-
  run.
-/
import Derived.Test.YtbljkbdbiceokaaPropI
namespace Go.Proofs.Ytbljkbdbiceokaa
open Go.RowKit Go.Lib
open Go.RowKit (Below)
open Go.Conc (solo G rcase scase uponK)

theorem clOk {F G : List (List Int)} {A : List Int} {n : Nat} {S : St} {cur : Int} {todo : List Int} (I : Inv F G A n S cur todo) {i : Nat} {e : Cl} (he : S.cls[i]? = some e) : ∀ y, y = e.a ∨ y = e.b ∨ y ∈ e.rest → y ≠ 0 ∧ y.natAbs ≤ n := by
  obtain ⟨c, hc, h⟩ := I.from_ i e he
  intro y hy
  have : y ∈ c := by
    rcases hy with rfl | rfl | hy
    · exact h.ha
    · exact h.hb
    · exact h.rest _ hy
  exact I.ok c (I.sub c hc) y this

set_option maxHeartbeats 1000000 in
theorem run_any {B : Nat} {m : Mm} {f : Int → Value} {cv : Value} {N s r : Nat} {vs : List Value} {S : St} {w : World} (h : PR B m f cv N s r vs S w) {F : List (List Int)} {A : List Int} (I : Inv F F A m.n S 0 []) (hnn : m.n ≤ 1000000) (hT2 : m.T ≤ 1000000000000) :
    Calls Try.prog 48 #[.pointer (some ⟨m.pb, 0, none⟩)] w fun e w' => ∃ b S', e = .returned (.bool b) ∧ (∃ f' cv' N' s' r' vs', PR B m f' cv' N' s' r' vs' S' w') ∧
      (b = true → Inv F F A m.n S' 0 [] ∧ S'.queue = [] ∧ ∀ y, S.kn y → S'.kn y) ∧ (b = false → Fails F A) ∧ Below B w w' := by
  have HP := Lib.hid h
  have HI := Lib.hid I
  have HNN := Lib.hid hnn
  have HT2 := Lib.hid hT2
  clear h I hnn hT2
  go_enter Try.func48, Try.ntmps48
  go_wp2
  go_loopw [3, 5] (fun x5 n5 wr => ∃ S1 : St, Hid (∃ f1 cv1 N1 s1 r1 vs1, PR B m f1 cv1 N1 s1 r1 vs1 S1 wr) ∧ Hid (Inv F F A m.n S1 0 []) ∧ Hid (∀ y, S.kn y → S1.kn y) ∧ Hid (Below B w wr)) (fun _ _ wr => measAt wr m.kb m.qb)
  case atStart => exact ⟨S, ⟨_, _, _, _, _, _, HP.out⟩, HI, fun _ h => h, Below.refl _ _⟩
  case round =>
    obtain ⟨S1, HPE, HI1, HK1, HB1⟩ := hrel
    obtain ⟨f1, cv1, N1, s1, r1, vs1, hP1⟩ := HPE.out
    have HP1 := Lib.hid hP1
    have c1 : wr.cell? ⟨m.pb, 1, none⟩ = some (.chan (some m.qb)) := hP1.blk.cell rfl
    have hch := hP1.chan
    have hlen := Go.Conc.run_len_chan (P := Try.prog) 94 3 Try.underlying94 hch
    clear hP1 HPE
    cases hq : S1.queue with
    | nil =>
      rw [hq] at hch hlen
      have HQ := Lib.hid hq
      clear hq
      go_wp2
      go_ret
      exact ⟨true, S1, rfl, ⟨_, _, _, _, _, _, HP1.out⟩, fun _ => ⟨HI1.out, HQ.out, HK1.out⟩, (fun h => by cases h), HB1.out⟩
    | cons x q =>
      have HQ := Lib.hid hq
      have hbuf0 : (S1.queue.map (Value.int .i64)).toArray.getD 0 undef = .int .i64 x := by rw [hq]; simp
      have hsz : (S1.queue.map (Value.int .i64)).toArray.size = q.length + 1 := by rw [hq]; simp
      have hxk : S1.kn x := HI1.out.qkn x (by rw [hq]; simp)
      have hxn := HI1.out.knle hxk
      have hx1 : -1000000 ≤ x := by have := HNN.out; omega
      have hx2 : x ≤ 1000000 := by have := HNN.out; omega
      have HXK := Lib.hid hxk
      have HCH := Lib.hid hch
      have HSZ := Lib.hid hsz
      have HBUF := Lib.hid hbuf0
      rw [hsz] at hlen
      clear hq hbuf0 hsz hxk hxn hch
      rw [kept 2]
      go_wp2
      refine wp_kept ?_
      simp only [List.size_toArray, List.length_cons, List.length_nil, Nat.reduceAdd, Nat.zero_add, List.range, List.range.loop]
      (refine opsTo_k rfl (by rfl) (fun K hK => ?_); go_simp; refine hK _ _ ?_; clear hK K)
      (refine opsTo_k rfl (by rfl) (fun K hK => ?_); go_simp; refine hK _ _ ?_; clear hK K)
      (refine opsTo_k rfl (by rfl) (fun K hK => ?_); go_simp; refine hK _ _ ?_; clear hK K)
      (refine opsTo_k rfl (by rfl) (fun K hK => ?_); go_simp; refine hK _ _ ?_; clear hK K)
      refine opsTo_recv (z := .int .i64 0) rfl (by rfl) (by simp [go_sem, rcase]) HCH.out (by rw [HSZ.out]; omega) ?_
      rw [HBUF.out]
      have hrec := HP1.out.recv HQ.out
      have HP2 := Lib.hid hrec.1
      have HB2 := Lib.hid (HB1.out.trans hrec.2)
      have HI2 := Lib.hid (HI1.out.take HQ.out)
      clear hrec
      generalize (World.setChan _ _ _ _ _ _ _ _) = w2 at HP2 HB2 ⊢
      (refine opsTo_k rfl (by rfl) (fun K hK => ?_); go_simp; refine hK _ _ ?_; clear hK K)
      refine opsTo_done ?_
      obtain ⟨S2, hS2⟩ : ∃ S2 : St, ({ S1 with queue := q } : St) = S2 := ⟨_, rfl⟩
      have hpm : pm S2 < pm S1 := by
        rw [← hS2]; simp only [pm]; rw [HQ.out]; simp
      have hw2 : S2.watch = S1.watch ∧ S2.known = S1.known := by rw [← hS2]; exact ⟨rfl, rfl⟩
      rw [hS2] at HP2 HI2
      obtain ⟨L, hL⟩ : ∃ L, S1.watch (-x) = L := ⟨_, rfl⟩
      rw [hL] at HI2
      have hrow := HP2.out.rows (-x)
      rw [hw2.1, hL] at hrow
      obtain ⟨va, vc, hv⟩ := cvForm hrow
      have c2 : w2.cell? ⟨m.pb, 2, none⟩ = some (.map (some m.mb)) := HP2.out.blk.cell rfl
      have hlk := HP2.out.look (w' := w2) rfl (x := -x) (by constructor <;> omega)
      rw [hv] at hlk
      have HV := Lib.hid hv
      have HPM := Lib.hid hpm
      have HLL : Hid (S2.watch (-x) = L ∧ ∀ y, S.kn y → S2.kn y) := ⟨by rw [hw2.1]; exact hL, fun y hy => by
        have := HK1.out y hy
        unfold St.kn at this ⊢
        rw [hw2.2]; exact this⟩
      have HPEX : Hid (∃ f3 cv3 N3 s3 r3 vs3, PR B m f3 cv3 N3 s3 r3 vs3 S2 w2 ∧ f3 (-x) = .slice va L.length vc) := ⟨_, _, _, _, _, _, HP2.out, hv⟩
      have HLEN : Hid (L.length ≤ 1000000000000) := by
        have h1 := HP2.out.wlen (-x)
        rw [hw2.1, hL] at h1
        have h2 := HP2.out.pot
        have h3 := HT2.out
        unfold Hid
        omega
      have HX0 : Hid (x ≠ 0) := HXK.out.1
      have HMS := Lib.hid HP1.out.meas
      clear hS2 hpm hw2 hL hrow hv HCH HSZ HBUF HP1 HP2 HI1 HK1 HQ hlen c1
      go_wp2
      obtain ⟨wo, rfl⟩ : ∃ wo : World, wo = wr := ⟨_, rfl⟩
      go_loopw [5, 25] (fun n5 i wr2 => ∃ (k : Nat) (S3 : St), i = .int .i64 k ∧ k ≤ L.length ∧ Hid (∃ f3 cv3 N3 s3 r3 vs3, PR B m f3 cv3 N3 s3 r3 vs3 S3 wr2 ∧ f3 (-x) = .slice va L.length vc) ∧ Hid (Inv F F A m.n S3 x (L.drop k)) ∧ Hid (S3.watch (-x) = L ∧ ∀ y, S.kn y → S3.kn y) ∧ Hid (pm S3 < pm S1) ∧ Hid (Below B w wr2)) (fun _ i _ => L.length - (intOf i).toNat)
      case atStart => exact ⟨0, S2, rfl, Nat.zero_le _, HPEX, HI2, HLL, HPM, HB2⟩
      case round =>
        obtain ⟨k, S3, rfl, hk, HPE3, HI3, HL3, HPM3, HB3⟩ := hrel
        clear HPEX HI2 HLL HPM HB2 hlk c2 HV
        have hle := HLEN.out
        obtain ⟨f3, cv3, N3, s3, r3, vs3, hP3, hf3⟩ := HPE3.out
        by_cases hlt : k < L.length
        · obtain ⟨z, hz⟩ : ∃ z, L[k]? = some z := ⟨_, List.getElem?_eq_getElem hlt⟩
          have hdrop : L.drop k = z :: L.drop (k + 1) := by
            rw [List.drop_eq_getElem_cons hlt]
            congr 1
            rw [List.getElem?_eq_getElem hlt] at hz
            exact Option.some.inj hz
          have hI3 := HI3.out
          rw [hdrop] at hI3
          obtain ⟨j, e, hzj, hje, _⟩ := hI3.ti z List.mem_cons_self
          subst hzj
          have hrow := hP3.rows (-x)
          rw [HL3.out.1, hf3] at hrow
          obtain ⟨g, cap, hform, _, _⟩ := hrow.form (by omega)
          cases hform
          have hcell : wr.cell? ⟨g, k, none⟩ = some (.int .i64 j) := rowCell hrow (by rw [List.getElem?_map, hz]; rfl)
          have hknx : S3.kn x := (hI3.curk.resolve_left HX0.out).1
          have hkat : kat S3.known (-x) = - -x := by
            have := hknx.2
            unfold kat at this ⊢
            rw [Int.natAbs_neg, this, Int.neg_neg]
          obtain ⟨bb, hbb⟩ : ∃ bb, (replaceS S3 j (-x)).2 = bb := ⟨_, rfl⟩
          have hrepl := replace_any hP3 (x := -x) hje hkat (clOk hI3 hje) HNN.out HT2.out (fun y hy h0 => hI3.room (clOk hI3 hje y (hy.imp id fun h => .inl h)).1 (clOk hI3 hje y (hy.imp id fun h => .inl h)).2) (by omega)
          rw [hbb] at hrepl
          have hstep := hI3.replace HX0.out
          have hget : S3.cls.getD j default = e := by rw [List.getD_eq_getElem?_getD, hje]; rfl
          have htb : (turnC (S3.cls.getD j default) (-x)).b ≠ 0 ∧ (turnC (S3.cls.getD j default) (-x)).b.natAbs < S3.known.length := by
            rw [hget, hI3.len]
            rcases turnC_or e (-x) with h | h
            · rw [h]; have := clOk hI3 hje e.b (.inr (.inl rfl)); exact ⟨this.1, by omega⟩
            · rw [h]; have := clOk hI3 hje e.a (.inl rfl); exact ⟨this.1, by dsimp only; omega⟩
          have HREP := Lib.hid hrepl
          have HST := Lib.hid hstep
          have HKAT := Lib.hid hkat
          have HTB := Lib.hid htb
          have HF3 := Lib.hid hf3
          have HBB := Lib.hid hbb
          clear hz hdrop hI3 hje hrow hknx hkat hrepl hstep hget htb hf3 hP3 HPE3 hbb HI3
          go_wp2_with fail
          refine HREP.out.mono ?_
          rintro e' w' ⟨rfl, ⟨f4, N4, s4, vs4, hP4, hf4⟩, hB4⟩
          have HP4 : Hid (∃ f3 cv3 N3 s3 r3 vs3, PR B m f3 cv3 N3 s3 r3 vs3 (replaceS S3 j (-x)).1 w' ∧ f3 (-x) = .slice (some ⟨g, 0, none⟩) L.length vc) := ⟨_, _, _, _, _, _, hP4, by rw [hf4 _ HKAT.out]; exact HF3.out⟩
          have HB4 := Lib.hid (HB3.out.trans hB4)
          clear hP4 hf4 hB4 hcell
          cases bb with
          | true =>
            have HI4 := Lib.hid (HST.out.1 HBB.out)
            have HL4 : Hid ((replaceS S3 j (-x)).1.watch (-x) = L ∧ ∀ y, S.kn y → (replaceS S3 j (-x)).1.kn y) := ⟨by rw [replace_watch HKAT.out]; exact HL3.out.1, fun y hy => kn_replace HTB.out.1 HTB.out.2 (HL3.out.2 y hy)⟩
            have HPM4 : Hid (pm (replaceS S3 j (-x)).1 < pm S1) := Nat.lt_of_le_of_lt (pm_replace HTB.out.1 HTB.out.2) HPM3.out
            clear HREP HST
            go_wp2
            go_roundw
            case rel => exact ⟨k + 1, _, by go_num, by omega, HP4, HI4, HL4, HPM4, HB4⟩
            case measure => simp [intOf]; omega
          | false =>
            have HFL := Lib.hid (HST.out.2 HBB.out)
            clear HREP HST
            go_wp2
            go_ret
            obtain ⟨_, _, _, _, _, _, h, _⟩ := HP4.out
            exact ⟨false, _, rfl, ⟨_, _, _, _, _, _, h⟩, (fun h => by cases h), fun _ => HFL.out, HB4.out⟩
        · have hkl : k = L.length := by omega
          have HIE : Hid (Inv F F A m.n S3 0 []) := by
            have h1 := HI3.out
            rw [hkl, List.drop_length] at h1
            exact h1.looked
          have HME : Hid (measAt wr m.kb m.qb < measAt wo m.kb m.qb) := by unfold Hid; rw [hP3.meas, HMS.out]; exact HPM3.out
          have HPEE : Hid (∃ f1 cv1 N1 s1 r1 vs1, PR B m f1 cv1 N1 s1 r1 vs1 S3 wr) := ⟨_, _, _, _, _, _, hP3⟩
          have HKE : Hid (∀ y, S.kn y → S3.kn y) := HL3.out.2
          clear hP3 hf3 HI3 HPE3 HL3
          go_wp2
          go_roundw
          case rel => exact ⟨S3, HPEE, HIE, HKE, HB3⟩
          case measure => exact HME.out
end Go.Proofs.Ytbljkbdbiceokaa
