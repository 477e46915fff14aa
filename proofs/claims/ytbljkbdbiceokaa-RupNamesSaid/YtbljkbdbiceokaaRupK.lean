/-
  forget.
  implies; add; refuses.
  add; refuses; newBase.
  newBase; IndexFunc.
  firstRefused.
-/
import Derived.Test.YtbljkbdbiceokaaRupE
namespace Go.Proofs.Ytbljkbdbiceokaa
open Go.RowKit Go.Lib
open Go.RowKit (Below)

/-! RupK -/
section
variable {B : Nat} {m : Mb} {f : Nat → Value} {tv cv : Value} {fl : Bool} {vs : List Value} {S : Sb} {w : World}
/-- The end of forget: the trail is shorter. -/
theorem PB.cut (h : PB B m f tv cv fl vs S w) {R : List Int} {tv' : Value} (hown : w.ownsRow B 3 1 tv' R.length (R.map (Value.int .i64))) (hat : ∀ g, tv'.ownBlock = some g → tv.ownBlock = some g) :
    PB B m f tv' cv fl vs { S with trail := R, looked := R.length } ((w.setCell ⟨m.pb, 1, none⟩ tv').setCell ⟨m.pb, 2, none⟩ (.int .i64 R.length)) ∧ Below B w ((w.setCell ⟨m.pb, 1, none⟩ tv').setCell ⟨m.pb, 2, none⟩ (.int .i64 R.length)) := by
  obtain ⟨h1, _⟩ := h.trSet (t := R) (tv' := tv') (Nat.le_refl _) (fun _ _ _ => rfl) hown (fun g hg => .inl (hat g hg))
  obtain ⟨h2, h3⟩ := h1.field (i := 2) (u := .int .i64 R.length) (fl' := fl) (S' := { S with trail := R, looked := R.length }) rfl rfl rfl rfl rfl
  exact ⟨h2, ((Below.refl B w).setCell (h.lt 0 _ rfl).1 _).trans h3⟩

set_option maxRecDepth 100000 in
set_option maxHeartbeats 4000000 in
theorem forget_any (h : PB B m f tv cv fl vs S w) {R q : List Int} {nR : Nat} (hq : S.trail = R ++ q) (hR : R.length = nR) (hx : ∀ x ∈ q, x.natAbs ≤ m.n) (hnn : m.n ≤ 1000000) (hroom : S.trail.length ≤ 1000000) :
    Calls Try.prog 76 #[.pointer (some ⟨m.pb, 0, none⟩), .int .i64 nR] w fun e w' => e = .returned (.tuple #[]) ∧ Hid (∃ tv', PB B m f tv' cv fl vs { S with known := wipe S.known q, trail := R, looked := R.length } w') ∧ Hid (Below B w w') := by
  have hlen : S.trail.length = nR + q.length := by rw [hq, List.length_append, hR]
  rcases h.tr.2 with ⟨ht, h0⟩ | ⟨gt, tc, cur, ht, g1, g2, g3, g4, g5, g6⟩
  · have hR0 : R = [] := List.length_eq_zero_iff.1 (by omega)
    have hq0 : q = [] := List.length_eq_zero_iff.1 (by omega)
    subst hR0 hq0
    obtain rfl : nR = 0 := hR.symm
    have c1 : w.cell? ⟨m.pb, 1, none⟩ = some (.slice none 0 0) := by rw [← ht]; exact h.blk.cell rfl
    have f1 : w.frozen? ⟨m.pb, 1, none⟩ = false := h.blk.free 1
    have c2 : w.cell? ⟨m.pb, 2, none⟩ = some (.int .i64 S.looked) := h.blk.cell rfl
    have f2 : w.frozen? ⟨m.pb, 2, none⟩ = false := h.blk.free 2
    have HF := Lib.hid (h.cut (R := []) (tv' := tv) (by rw [ht]; exact World.ownsRow_nil _ _ _ _) (fun _ h => h))
    rw [ht] at HF
    clear h hq hlen ht h0 hx hroom hR
    go_enter Try.func76, Try.ntmps76
    go_wp2
    go_loopw [13] (fun i wr => i = .int .i64 0 ∧ wr = w) (fun _ _ => 0)
    case atStart => exact ⟨rfl, rfl⟩
    case round =>
      obtain ⟨rfl, rfl⟩ := hrel
      go_wp2
      go_end0
      exact ⟨rfl, ⟨_, HF.out.1⟩, HF.out.2⟩
  · obtain ⟨tl, htl⟩ : ∃ tl, S.trail.length = tl := ⟨_, rfl⟩
    obtain ⟨ql, hql⟩ : ∃ ql, q.length = ql := ⟨_, rfl⟩
    rw [htl, hql] at hlen
    rw [htl] at ht g3
    have hsub : tl - nR = ql := by omega
    have c1 : w.cell? ⟨m.pb, 1, none⟩ = some (.slice (some ⟨gt, 0, none⟩) tl tc) := by rw [← ht]; exact h.blk.cell rfl
    obtain ⟨ra, hra⟩ : ∃ ra : Option Addr, (if tc = nR then some ⟨gt, 0, none⟩ else some ⟨gt, nR, none⟩) = ra := ⟨_, rfl⟩
    have hrow := h.tr
    rw [ht, htl] at hrow
    have hI : IntsR w ra q := by
      by_cases hq0 : q.length = 0
      · exact .inl hq0
      · rw [if_neg (by omega)] at hra
        refine .inr ⟨gt, nR, hra.symm, (hrow.lt gt rfl).2, fun j hj => rowCell hrow ?_⟩
        rw [List.getElem?_map, hq, List.getElem?_append_right (by omega), hR, Nat.add_sub_cancel_left, getD_some q 0 j hj]; rfl
    have hrb : ∀ p, ra = some p → p.block = gt := fun p hp => by rw [← hra] at hp; split at hp <;> (cases hp; rfl)
    have hgk : gt ≠ m.kb := h.ne (i := 3) (j := 1) (by rw [ht]; rfl) rfl (by omega)
    have hn1 : (0 : Int) ≤ (nR : Int) := by omega
    have hn2 : (nR : Int) ≤ (tl : Int) := by omega
    have hn3 : (tl : Int) ≤ (tc : Int) := by omega
    have hn4 : (nR : Int) ≤ (tc : Int) := by omega
    have hn5 : (tl : Int) ≤ 1000000 := by omega
    have HP := Lib.hid h
    have HI := Lib.hid hI
    have HRB := Lib.hid hrb
    have HGK := Lib.hid hgk
    have HX := Lib.hid hx
    have HNN := Lib.hid hnn
    have HQL := Lib.hid hql
    have HQ := Lib.hid hq
    have HR := Lib.hid hR
    have HTV := Lib.hid ht
    have HTL := Lib.hid htl
    clear h hI hrb hgk hx hnn hql hq hR htl g1 g2 g3 g4 g5 g6 hlen hroom hrow ht
    go_enter Try.func76, Try.ntmps76
    go_wp2
    go_loopw [13] (fun i wr => ∃ k : Nat, i = .int .i64 k ∧ k ≤ ql ∧ Hid (PB B m f tv cv fl vs { S with known := wipe S.known (q.take k) } wr) ∧ Hid (IntsR wr ra q) ∧ Hid (Below B w wr)) (fun i _ => ql - (intOf i).toNat)
    case atStart => exact ⟨0, rfl, Nat.zero_le _, HP.out, HI, Below.refl _ _⟩
    case round =>
      obtain ⟨k, rfl, hk, HP1, HI1, HB1⟩ := hrel
      by_cases hlt : k < ql
      · obtain ⟨b, off, x, rfl, hxk, hcx⟩ := HI1.out.at (k := k) (by rw [HQL.out]; exact hlt)
        obtain ⟨j, hj⟩ : ∃ j, x.natAbs = j := ⟨_, rfl⟩
        have hxn := HX.out x (List.mem_of_getElem? hxk.out)
        have hnn := HNN.out
        have hx1 : -9223372036854775808 < x := by omega
        have hx2 : x ≤ 9223372036854775807 := by omega
        have hj1 : (0 : Int) ≤ (j : Int) := by omega
        have hj2 : (j : Int) < (m.n : Int) + 1 := by omega
        have KV := Lib.hid (fun W => rvariable_is x j hj hx1 hx2 W)
        have HST : Hid (∀ wb, QuietTo wr wb → wb.cell? ⟨m.pb, 0, none⟩ = some (.slice (some ⟨m.kb, 0, none⟩) (m.n + 1) (m.n + 1)) ∧ wb.cell? ⟨m.kb, j, none⟩ = some (.int .i64 ((wipe S.known (q.take k)).getD j 0)) ∧ wb.frozen? ⟨m.kb, j, none⟩ = false) := by
          intro wb hqb
          have h1 := HP1.out.below (quietBelow hqb _)
          exact ⟨h1.blk.cell rfl, h1.known (j := j) (by omega), h1.kn.free j⟩
        have HFIN : Hid (∀ wb, QuietTo wr wb → PB B m f tv cv fl vs { S with known := wipe S.known (q.take (k + 1)) } (wb.setCell ⟨m.kb, j, none⟩ (.int .i64 0)) ∧ IntsR (wb.setCell ⟨m.kb, j, none⟩ (.int .i64 0)) (some ⟨b, off, none⟩) q ∧ Below B w (wb.setCell ⟨m.kb, j, none⟩ (.int .i64 0))) := by
          intro wb hqb
          have h1 := (HP1.out.below (quietBelow hqb _)).knSet j 0
          refine ⟨?_, ?_, (HB1.out.trans (quietBelow hqb B)).trans h1.2⟩
          · have h2 : wipe S.known (q.take (k + 1)) = (wipe S.known (q.take k)).set j 0 := by rw [take_snoc _ _ _ hxk.out, wipe_snoc, hj]
            rw [h2]
            exact h1.1
          · refine (HI1.out.below (quietBelow hqb _)).stays (by simp) fun p hp => setCell_block wb _ _ ?_
            rw [HRB.out p hp]; exact HGK.out
        clear hj hxn hnn hxk
        go_wp2
        refine wp_region_still_tail 7 (by kernel_rfl) (by kernel_rfl) ?_
        simp only [List.take_succ_cons, List.take_zero, List.drop_succ_cons, List.drop_zero]
        generalize hwb : World.mk wr.heap wr.tape _ _ _ = wb
        have hqb : QuietTo wr wb := ⟨1, by rw [← hwb]; simp [World.drewN]⟩
        obtain ⟨s1, s2, s3⟩ := HST.out wb hqb
        obtain ⟨r1, r2, r3⟩ := HFIN.out wb hqb
        have R1 := Lib.hid r1
        have R2 := Lib.hid r2
        have R3 := Lib.hid r3
        clear hwb hqb r1 r2 r3 hcx
        repeat (first | (refine wpStill_step (fun K hK => ?_); go_simp; refine hK _ ?_; clear hK K) | (refine wpStill_step (fun K hK => ?_); go_simp; refine ⟨_, KV.out _, hK _ ?_⟩; clear hK K))
        refine wpStill_nil ?_
        go_wp2
        go_roundw
        case rel => exact ⟨k + 1, by go_num, by omega, R1, R2, R3⟩
        case measure => simp [intOf]; omega
      · have hkl : k = q.length := by rw [HQL.out]; omega
        have hP1 := HP1.out
        rw [hkl, List.take_length] at hP1
        have d1 : wr.cell? ⟨m.pb, 1, none⟩ = some (.slice (some ⟨gt, 0, none⟩) tl tc) := by rw [← HTV.out]; exact hP1.blk.cell rfl
        have f1 : wr.frozen? ⟨m.pb, 1, none⟩ = false := hP1.blk.free 1
        have d2 : wr.cell? ⟨m.pb, 2, none⟩ = some (.int .i64 S.looked) := hP1.blk.cell rfl
        have f2 : wr.frozen? ⟨m.pb, 2, none⟩ = false := hP1.blk.free 2
        have hrow := hP1.tr
        rw [HTV.out] at hrow
        dsimp only at hrow
        rw [HTL.out] at hrow
        have HF := Lib.hid (hP1.cut (R := R) (tv' := .slice (some ⟨gt, 0, none⟩) nR tc) (by
          have h9 := ownsRow_take (n' := nR) hrow (by omega)
          rw [HR.out]
          have h8 : R.map (Value.int .i64) = (S.trail.map (Value.int .i64)).take (nR * 1) := by rw [HQ.out, List.map_append, Nat.mul_one, List.take_left' (by rw [List.length_map, HR.out])]
          rw [h8]
          exact h9) (fun g hg => by rw [HTV.out]; exact hg))
        rw [HR.out] at HF
        clear hkl hP1 hrow
        go_wp2
        go_end0
        rw [HR.out]
        exact ⟨rfl, ⟨_, HF.out.1⟩, HB1.out.trans HF.out.2⟩
end

/-! RupL -/
/-- The base knows all that follows, or that unit propagation fails. -/
def BaseOk (G : List (List Int)) (n : Nat) (S : Sb) (fl : Bool) : Prop := (fl = true → Fails G []) ∧ (fl = false → Base G n S)
/-- What is behind implies. -/
def ImpPost (G : List (List Int)) (n : Nat) (fl : Bool) (c : List Int) (S S' : Sb) (b : Bool) : Prop :=
  (b = true ↔ Fails G (negs c)) ∧ BaseOk G n S' fl ∧ S'.cls.length = S.cls.length
theorem Try.infoCb : (Try.prog.info? 110).map (fun i => (i.zero, i.size, i.bytes)) = some (some (.agg #[.int .i64 0, .int .i64 0, .slice none 0 0, .int .i64 0]), 4, 48) := by kernel_rfl

section
variable {B : Nat} {m : Mb} {f : Nat → Value} {tv cv : Value} {fl : Bool} {vs : List Value} {S : Sb} {w : World}
set_option maxRecDepth 100000 in
set_option maxHeartbeats 4000000 in
theorem implies_any (h : PB B m f tv cv fl vs S w) {G : List (List Int)} (H : BaseOk G m.n S fl) {c : List Int} {a : Option Addr} {cap : Nat} (hX : IntsR w a c) (hl : c.length ≤ 1000000) (hok : ∀ x ∈ c, x ≠ 0 ∧ x.natAbs ≤ m.n) (hnn : m.n ≤ 1000000) (hcl : S.cls.length ≤ 1000000000) :
    Calls Try.prog 68 #[.pointer (some ⟨m.pb, 0, none⟩), .slice a c.length cap] w fun e w' => ∃ b S', e = .returned (.bool b) ∧ ImpPost G m.n fl c S S' b ∧ Hid (∃ f' tv' vs', PB B m f' tv' cv fl vs' S' w') ∧ Hid (Below B w w') := by
  have hfl : fl = true ∨ fl = false := by cases fl <;> simp
  have c5 : w.cell? ⟨m.pb, 5, none⟩ = some (.bool fl) := h.blk.cell rfl
  rcases hfl with rfl | rfl
  · have HP := Lib.hid h
    have HFIN : Hid (ImpPost G m.n true c S S true) := ⟨⟨fun _ => (H.1 rfl).mono (fun _ h => h) (by simp), fun _ => rfl⟩, H, rfl⟩
    clear h H hX hl hok hnn hcl
    go_enter Try.func68, Try.ntmps68
    go_wp2
    go_ret
    exact ⟨true, S, rfl, HFIN.out, ⟨_, _, _, HP.out⟩, Below.refl _ _⟩
  · have hB := H.2 rfl
    obtain ⟨ta, tc, ht⟩ := cvForm h.tr
    obtain ⟨tl, htl⟩ : ∃ tl, S.trail.length = tl := ⟨_, rfl⟩
    have c1 : w.cell? ⟨m.pb, 1, none⟩ = some (.slice ta tl tc) := by rw [← htl, ← ht]; exact h.blk.cell rfl
    have HNG := Lib.hid (negatives_any a cap c w hl (fun x hx => by have := hok x hx; omega) hX)
    have HP := Lib.hid h
    have HB := Lib.hid hB
    have HOK := Lib.hid hok
    have HNN := Lib.hid hnn
    have HCL := Lib.hid hcl
    have HL := Lib.hid hl
    have HTL := Lib.hid htl
    have htlI : (tl : Int) ≤ 1000000 := by have := hB.inv.room; omega
    clear h H hX hl hok hnn hcl hB ht htl
    go_enter Try.func68, Try.ntmps68
    go_wp2_with fail
    refine HNG.out.mono ?_
    rintro e' w1 ⟨b, rfl, hb1, hb2, hI, hB1⟩
    have hP1 := HP.out.below hB1
    have hla := blearnAll_any (c := c.length) hP1 (xs := negs c) (HB.out.enter (negs c)) hI (fun p hp => by
      cases hp
      exact ⟨hb2, fun i hi => by have := (HP.out.lt i _ hi).2; dsimp only at this; omega⟩) (by rw [negs_len]; have := HL.out; have : maxLen = 9223372036854775807 := rfl; omega) (fun x hx => by
        have := HOK.out _ (mem_negs.1 hx)
        omega) HNN.out
    rw [negs_len] at hla
    have HLA := Lib.hid hla
    have HB1 := Lib.hid (hB1.mono HP.out.size)
    clear hP1 hla hb1 hb2 hI hB1 HNG
    go_wp2_with fail
    refine HLA.out.mono ?_
    rintro e' w2 ⟨b2, S2, rfl, HP2, hJ2, hc2, hw2, hk2, ht2, hf2, hB2⟩
    have HJ2 := Lib.hid hJ2
    have HC2 : Hid (S2.cls = S.cls) := hc2
    have HT2 := Lib.hid ht2
    have HF2 := Lib.hid hf2
    have HB2 := Lib.hid (HB1.out.trans hB2)
    clear hJ2 hc2 hw2 hk2 ht2 hf2 hB2 HLA
    -- behind learnAll and run: all is taken back
    have HEND : Hid (∀ (w3 : World) (S3 : Sb) (cur : Int) (todo : List Int), (∃ f' tv' vs', PB B m f' tv' cv false vs' S3 w3) → Jnv G (negs c) m.n S.trail S3 cur todo → S3.cls.map Cb.lits = S.cls.map Cb.lits →
        Calls Try.prog 76 #[.pointer (some ⟨m.pb, 0, none⟩), .int .i64 tl] w3 fun e w' => ∃ S4, e = .returned (.tuple #[]) ∧ Base G m.n S4 ∧ S4.cls.length = S.cls.length ∧ Hid (∃ f' tv' vs', PB B m f' tv' cv false vs' S4 w') ∧ Hid (Below B w3 w')) := by
      rintro w3 S3 cur todo ⟨f', tv', vs', h3⟩ J3 hl3
      obtain ⟨q, hq⟩ := J3.root
      refine (forget_any h3 (R := S.trail) (q := q) hq.symm HTL.out (fun x hx => J3.knle ((J3.tr x).2 (by rw [← hq]; exact List.mem_append_right _ hx))) HNN.out (by have := J3.room; have := HNN.out; omega)).mono ?_
      rintro e w4 ⟨rfl, hP4, hB4⟩
      refine ⟨_, rfl, HB.out.left J3 hl3 hq.symm, ?_, ?_, hB4⟩
      · have := congrArg List.length hl3; simpa using this
      · obtain ⟨tv4, h4⟩ := hP4.out
        exact ⟨_, _, _, h4⟩
    have hbb : b2 = true ∨ b2 = false := by cases b2 <;> simp
    rcases hbb with rfl | rfl
    · have HRUN : Hid (Calls Try.prog 66 #[.pointer (some ⟨m.pb, 0, none⟩)] w2 fun e w' => ∃ b S', e = .returned (.bool b) ∧ RunPost G (negs c) m.n S.trail S2 S' b ∧ Hid (∃ f' tv' vs', PB B m f' tv' cv false vs' S' w') ∧ Hid (Below B w2 w')) := by
        obtain ⟨tv', h2⟩ := HP2.out
        exact brun_any h2 HJ2.out HNN.out (by rw [HC2.out]; exact HCL.out)
      go_wp2_with fail
      refine HRUN.out.mono ?_
      rintro e' w3 ⟨b3, S3, rfl, hpost, HP3, HB3⟩
      have HR := Lib.hid hpost
      have HLT : Hid (S3.cls.map Cb.lits = S.cls.map Cb.lits) := by unfold Hid; rw [hpost.2.1, HC2.out]
      have HFG : Hid (Calls Try.prog 76 #[.pointer (some ⟨m.pb, 0, none⟩), .int .i64 tl] w3 fun e w' => ∃ S4, e = .returned (.tuple #[]) ∧ Base G m.n S4 ∧ S4.cls.length = S.cls.length ∧ Hid (∃ f' tv' vs', PB B m f' tv' cv false vs' S4 w') ∧ Hid (Below B w3 w')) := by
        obtain ⟨⟨cur, todo, hJ3⟩, _⟩ := HR.out
        exact HEND.out w3 S3 cur todo HP3.out hJ3 HLT.out
      clear hpost HRUN
      have hbb : b3 = true ∨ b3 = false := by cases b3 <;> simp
      rcases hbb with rfl | rfl
      · have HNF : Hid (¬ Fails G (negs c)) := by
          obtain ⟨_, _, h3, h4, _⟩ := HR.out
          exact HB.out.fails (h4 (by trivial)).1 rfl HLT.out (h4 (by trivial)).2 fun x hx => h3 x (HT2.out (by trivial) x hx)
        go_wp2_with fail
        refine HFG.out.mono ?_
        rintro e' w4 ⟨S4, rfl, hb4, hl4, HP4, HB4⟩
        have HFIN : Hid (ImpPost G m.n false c S S4 false) := ⟨⟨(fun h => by cases h), fun h => absurd h HNF.out⟩, ⟨(fun h => by cases h), fun _ => hb4⟩, hl4⟩
        clear hb4 hl4
        go_wp2
        go_ret
        exact ⟨false, S4, rfl, HFIN.out, HP4, (HB2.out.trans HB3.out).trans HB4.out⟩
      · have HNF : Hid (Fails G (negs c)) := HR.out.2.2.2.2 (by trivial)
        go_wp2_with fail
        refine HFG.out.mono ?_
        rintro e' w4 ⟨S4, rfl, hb4, hl4, HP4, HB4⟩
        have HFIN : Hid (ImpPost G m.n false c S S4 true) := ⟨⟨fun _ => HNF.out, fun _ => rfl⟩, ⟨(fun h => by cases h), fun _ => hb4⟩, hl4⟩
        clear hb4 hl4
        go_wp2
        go_ret
        exact ⟨true, S4, rfl, HFIN.out, HP4, (HB2.out.trans HB3.out).trans HB4.out⟩
    · have HNF : Hid (Fails G (negs c)) := HF2.out (by trivial)
      have HFG : Hid (Calls Try.prog 76 #[.pointer (some ⟨m.pb, 0, none⟩), .int .i64 tl] w2 fun e w' => ∃ S4, e = .returned (.tuple #[]) ∧ Base G m.n S4 ∧ S4.cls.length = S.cls.length ∧ Hid (∃ f' tv' vs', PB B m f' tv' cv false vs' S4 w') ∧ Hid (Below B w2 w')) := by
        obtain ⟨tv', h2⟩ := HP2.out
        exact HEND.out w2 S2 0 [] ⟨_, _, _, h2⟩ HJ2.out (by rw [HC2.out])
      clear HF2 HT2
      go_wp2_with fail
      refine HFG.out.mono ?_
      rintro e' w4 ⟨S4, rfl, hb4, hl4, HP4, HB4⟩
      have HFIN : Hid (ImpPost G m.n false c S S4 true) := ⟨⟨fun _ => HNF.out, fun _ => rfl⟩, ⟨(fun h => by cases h), fun _ => hb4⟩, hl4⟩
      clear hb4 hl4
      go_wp2
      go_ret
      exact ⟨true, S4, rfl, HFIN.out, HP4, HB2.out.trans HB4.out⟩
end

/-! RupM -/
theorem four_one {x y z : Int} {a : Option Addr} {n c : Nat} : ∀ u ∈ [Value.int .i64 x, .int .i64 y, .slice a n c, .int .i64 z], u.oneCell' = true := by
  intro u hu; simp at hu; rcases hu with rfl | rfl | rfl | rfl <;> rfl
/-- What is behind add. -/
def AddPost (G : List (List Int)) (n : Nat) (S : Sb) (S' : Sb) (fl' : Bool) : Prop := BaseOk G n S' fl' ∧ S'.cls.length ≤ S.cls.length + 1

section
variable {B : Nat} {m : Mb} {f : Nat → Value} {tv cv : Value} {fl : Bool} {vs : List Value} {S : Sb} {w : World}
/-- Behind the append of a clause. -/
theorem PB.added (h : PB B m f tv cv fl vs S w) {w0 w1 : World} {cv' : Value} {e : Cb} {a : Option Addr} {c : Nat} (hb : Below w.heap.size w w0)
    (hown : w1.ownsRow B 110 4 cv' (S.cls.length + 1) (vs ++ [.int .i64 e.a, .int .i64 e.b, .slice a e.lits.length c, .int .i64 e.next])) (hg : w0.grownBy w1 cv.ownBlock) (hat : cv'.ownBlock = cv.ownBlock ∨ cv'.ownBlock = some (w.heap.size + 1))
    (hi : IntsR w a e.lits) (hp : ∀ p, a = some p → p.block < B ∧ p.block < w.heap.size) (hc : e.lits.length ≤ c) (hc2 : c ≤ maxLen) :
    PB B m f tv cv' fl (vs ++ [.int .i64 e.a, .int .i64 e.b, .slice a e.lits.length c, .int .i64 e.next]) { S with cls := S.cls ++ [e] } (w1.setCell ⟨m.pb, 4, none⟩ cv') ∧ Below B w (w1.setCell ⟨m.pb, 4, none⟩ cv') ∧
      w1.cell? ⟨m.pb, 4, none⟩ = some cv ∧ w1.frozen? ⟨m.pb, 4, none⟩ = false := by
  have hsz : w.heap.size ≤ w1.heap.size := Nat.le_trans hb.size hg.size
  have hst : ∀ b, b < w.heap.size → cv.ownBlock ≠ some b → w1.heap[b]? = w.heap[b]? := fun b hb' hf => (hg.block b (Nat.lt_of_lt_of_le hb' hb.size) (fun e => hf e.symm)).trans (hb.block b hb')
  have hpb := h.lt 0 _ rfl
  have hne : cv.ownBlock ≠ some m.pb := fun e => absurd (h.ap 4 0 _ e rfl) (by omega)
  refine ⟨h.clsPut hsz hst hown (fun g hg' => ?_) hi hp hc hc2, ?_, ?_, ?_⟩
  · rcases hat with e | e
    · left; rw [← e]; exact hg'
    · right; rw [e] at hg'; injection hg' with hg'; omega
  · have h4 : Below B w w1 := (hb.mono h.size).grown hg (by have := hb.size; have := h.size; omega) (fun b hb => (h.lt 4 b hb).1)
    exact h4.setCell hpb.1 _
  · rw [World.cell?_of_block (a := ⟨m.pb, 4, none⟩) (hst _ hpb.2 hne)]; exact h.blk.cell rfl
  · rw [World.frozen?_of_block (a := ⟨m.pb, 4, none⟩) (hst _ hpb.2 hne)]; exact h.blk.free 4

set_option maxRecDepth 100000 in
set_option maxHeartbeats 4000000 in
theorem add_any (h : PB B m f tv cv fl vs S w) {G : List (List Int)} (H : BaseOk G m.n S fl) {c : List Int} {a : Option Addr} {cap : Nat} (hX : IntsR w a c) (hp : 0 < c.length → ∀ p, a = some p → p.block < B ∧ p.block < w.heap.size) (hc : c.length ≤ cap) (hc2 : cap ≤ maxLen)
    (hok : ∀ x ∈ c, x ≠ 0 ∧ x.natAbs ≤ m.n) (hnn : m.n ≤ 1000000) (hcl : S.cls.length ≤ 100000000) :
    Calls Try.prog 55 #[.pointer (some ⟨m.pb, 0, none⟩), .slice a c.length cap] w fun e w' => ∃ S' fl', e = .returned (.tuple #[]) ∧ AddPost (G ++ [c]) m.n S S' fl' ∧ Hid (∃ f' tv' cv' vs', PB B m f' tv' cv' fl' vs' S' w') ∧ Hid (Below B w w') := by
  have hfl : fl = true ∨ fl = false := by cases fl <;> simp
  have c5 : w.cell? ⟨m.pb, 5, none⟩ = some (.bool fl) := h.blk.cell rfl
  rcases hfl with rfl | rfl
  · have HP := Lib.hid h
    have HFIN : Hid (AddPost (G ++ [c]) m.n S S true) := ⟨⟨fun _ => (H.1 rfl).mono (fun _ h => List.mem_append_left _ h) (fun _ h => h), fun h => by cases h⟩, Nat.le_succ _⟩
    clear h H hX hp hc hc2 hok hnn hcl
    go_enter Try.func55, Try.ntmps55
    go_wp2
    first | go_end0 | refine bodyPost_ret (results_none rfl _ _ _) rfl ?_
    exact ⟨S, true, rfl, HFIN.out, ⟨_, _, _, _, HP.out⟩, Below.refl _ _⟩
  · have hB := H.2 rfl
    have HLF := Lib.hid (left_any (cap := cap) h hX (by omega) hok hnn)
    have HP := Lib.hid h
    have HB := Lib.hid hB
    have HOK := Lib.hid hok
    have HNN := Lib.hid hnn
    have HCL := Lib.hid hcl
    have HX := Lib.hid hX
    have HPP := Lib.hid hp
    have hcM : (cap : Int) ≤ 9223372036854775807 := by have : maxLen = 9223372036854775807 := rfl; omega
    have hcI : (c.length : Int) ≤ (cap : Int) := by omega
    have HC2 := Lib.hid hc2
    have HC := Lib.hid hc
    clear h H hX hp hok hnn hcl hB hc hc2
    go_enter Try.func55, Try.ntmps55
    go_wp2_with fail
    refine HLF.out.mono ?_
    rintro e' w1 ⟨x, y, rfl, hpost, hq⟩
    have hP1 := HP.out.below (quietBelow hq _)
    have HQ := Lib.hid hq
    have HBQ := Lib.hid (quietBelow hq B)
    rcases hpost with ⟨rfl, rfl, hall⟩ | ⟨hx0, rfl, hxc, hxn, hall⟩ | ⟨hx0, hy0, hxc, hyc, hxy, hxn, hyn⟩
    · have d5 : w1.cell? ⟨m.pb, 5, none⟩ = some (.bool false) := hP1.blk.cell rfl
      have f5 : w1.frozen? ⟨m.pb, 5, none⟩ = false := hP1.blk.free 5
      have HF := Lib.hid (hP1.field (i := 5) (u := .bool true) (fl' := true) (S' := S) rfl rfl rfl rfl rfl)
      have HFIN : Hid (AddPost (G ++ [c]) m.n S S true) := ⟨⟨fun _ => HB.out.none hall, fun h => by cases h⟩, Nat.le_succ _⟩
      clear hP1 hall hq HLF c5
      go_wp2
      go_end0
      exact ⟨S, true, rfl, HFIN.out, ⟨_, _, _, _, HF.out.1⟩, HBQ.out.trans HF.out.2⟩
    · have e1 : (x == 0) = false := by simp [hx0]
      obtain ⟨o1, o2, o3, o4, o5⟩ := HB.out.one HOK.out hxc hxn hall
      have hw := blearn_any hP1 (x := x) (HOK.out x hxc).2 HNN.out (fun _ => by have := HB.out.inv.room; have := HNN.out; omega)
      rw [o1] at hw
      have HW := Lib.hid hw
      have HXC := Lib.hid hxc
      have HO2 := Lib.hid o2
      have HO3 := Lib.hid o3
      have HO4 := Lib.hid o4
      have HO5 : Hid ((learnB S x).1.cls = S.cls) := o5
      clear hP1 hall hq HLF c5 hx0 hxn hxc o1 o2 o3 o4 o5 hw
      go_wp2_with fail
      refine HW.out.mono ?_
      rintro e' w2 ⟨rfl, ⟨tv2, hP2, _⟩, hB2⟩
      have HRUN := Lib.hid (brun_any hP2 HO2.out HNN.out (by rw [HO5.out]; have := HCL.out; omega))
      have HB2 := Lib.hid (HBQ.out.trans hB2)
      clear hP2 hB2 HW
      go_wp2_with fail
      refine HRUN.out.mono ?_
      rintro e' w3 ⟨b3, S3, rfl, hpost, HP3, HB3⟩
      have HR := Lib.hid hpost
      obtain ⟨f3, tv3, vs3, hP3⟩ := HP3.out
      have d5 : w3.cell? ⟨m.pb, 5, none⟩ = some (.bool false) := hP3.blk.cell rfl
      have f5 : w3.frozen? ⟨m.pb, 5, none⟩ = false := hP3.blk.free 5
      have HLN : Hid (S3.cls.length ≤ S.cls.length + 1) := by
        have h9 := congrArg List.length hpost.2.1
        simp only [List.length_map] at h9
        unfold Hid
        rw [h9, HO5.out]; omega
      have hbb : b3 = true ∨ b3 = false := by cases b3 <;> simp
      rcases hbb with rfl | rfl
      · have HFIN : Hid (AddPost (G ++ [c]) m.n S S3 false) := by
          obtain ⟨_, h2, h3, h4, _⟩ := HR.out
          exact ⟨⟨(fun h => by cases h), fun _ => HB.out.oneDone HXC.out (h4 (by trivial)).1 (h4 (by trivial)).2 (h3 x HO3.out) (fun y hy => h3 y (HO4.out y hy)) (by rw [h2, HO5.out])⟩, HLN.out⟩
        have HF := Lib.hid (hP3.field (i := 5) (u := .bool false) (fl' := false) (S' := S3) rfl rfl rfl rfl rfl)
        clear hpost hP3 HP3 HRUN HR
        go_wp2
        go_end0
        exact ⟨S3, false, rfl, HFIN.out, ⟨_, _, _, _, HF.out.1⟩, (HB2.out.trans HB3.out).trans HF.out.2⟩
      · have HFIN : Hid (AddPost (G ++ [c]) m.n S S3 true) := ⟨⟨fun _ => HR.out.2.2.2.2 (by trivial), (fun h => by cases h)⟩, HLN.out⟩
        have HF := Lib.hid (hP3.field (i := 5) (u := .bool true) (fl' := true) (S' := S3) rfl rfl rfl rfl rfl)
        clear hpost hP3 HP3 HRUN HR
        go_wp2
        go_end0
        exact ⟨S3, true, rfl, HFIN.out, ⟨_, _, _, _, HF.out.1⟩, (HB2.out.trans HB3.out).trans HF.out.2⟩
    · have e1 : (x == 0) = false := by simp [hx0]
      have e2 : (y == 0) = false := by simp [hy0]
      have HFIN : Hid (AddPost (G ++ [c]) m.n S { S with cls := S.cls ++ [⟨x, y, c, 0⟩], watch := upd (upd S.watch x (S.watch x ++ [(S.cls.length : Int)])) y (S.watch y ++ [(S.cls.length : Int)]) } false) :=
        ⟨⟨(fun h => by cases h), fun _ => HB.out.two HOK.out hxc hyc hxy hxn hyn⟩, by simp⟩
      obtain ⟨ca, cc, hcv⟩ := cvForm hP1.cls
      have d4 : w1.cell? ⟨m.pb, 4, none⟩ = some (.slice ca S.cls.length cc) := by rw [← hcv]; exact hP1.blk.cell rfl
      have HCV := Lib.hid hcv
      have HP1 := Lib.hid hP1
      have HRO := Lib.hid (World.ownsRow.alloc hP1.cls (.cells #[.int .i64 x, .int .i64 y, .slice a c.length cap, .int .i64 0] 110))
      rw [hcv] at HRO
      have HXO := Lib.hid (HOK.out x hxc)
      have HYO := Lib.hid (HOK.out y hyc)
      have HXY := Lib.hid hxy
      have hclI : (S.cls.length : Int) ≤ 100000000 := by have := HCL.out; omega
      obtain ⟨j0, hj, hy1, hy2, hy3⟩ := info_parts Try.infoCb
      have HFW := Lib.hid (HB.out.inv.few)
      have HPQ := Lib.hid (HPP.out (List.length_pos_of_mem hxc))
      clear hP1 hcv hq HLF c5 hx0 hy0 hxc hyc hxy hxn hyn
      go_wp2_with (at_builtin; refine wpList_append_own_at _ rfl _ _ 103 rfl B 110 j0 (.agg #[.int .i64 0, .int .i64 0, .slice none 0 0, .int .i64 0]) 4 48 Try.underlying103 hj hy1 hy2 hy3 rfl (by decide) _ _ _ rfl HRO.out ⟨w1.heap.size, 0, none⟩ 1 1 [.int .i64 x, .int .i64 y, .slice a c.length cap, .int .i64 0] rfl rfl (World.news_of_block (cs := #[.int .i64 x, .int .i64 y, .slice a c.length cap, .int .i64 0]) (t := 110) (fr := (0, 0)) (heap_alloc_new w1 _)) four_one ?c3 ?c4 ?c5 ?_)
      case c3 => have := HCL.out; unfold maxLen; omega
      case c4 => have := HCL.out; omega
      case c5 => have := HP1.out.size; simp; omega
      intro v' w2 hown hgrow _ hat
      obtain ⟨g, cap2, rfl⟩ := Go.Joins.ownsRow_form hown (by omega)
      have hAD := HP1.out.added (e := ⟨x, y, c, 0⟩) (boxed w1 _) hown (by rw [HCV.out]; exact hgrow) (by rw [HCV.out]; simpa using hat) (HX.out.below (quietBelow HQ.out _)) (fun p hp => ⟨(HPQ.out p hp).1, Nat.lt_of_lt_of_le (HPQ.out p hp).2 (quietBelow HQ.out B).size⟩) HC.out HC2.out
      have d4' := hAD.2.2.1
      have f4 := hAD.2.2.2
      rw [HCV.out] at d4'
      have HAD := Lib.hid hAD
      clear hAD hown hgrow hat d4
      have HW1 := Lib.hid (bwatch_any (x := x) (z := (S.cls.length : Int)) HAD.out.1 HXO.out.2 HNN.out (by have := HFW.out x; have := HCL.out; dsimp only; omega))
      go_wp2_with fail
      refine HW1.out.mono ?_
      rintro e' w3 ⟨rfl, ⟨f3, hP3⟩, hB3⟩
      have HW2 := Lib.hid (bwatch_any (x := y) (z := (S.cls.length : Int)) hP3 HYO.out.2 HNN.out (by
        have := HFW.out y
        have := HCL.out
        show (upd S.watch x (S.watch x ++ [(S.cls.length : Int)]) y).length ≤ 1000000000
        rw [upd_other _ _ (fun e => HXY.out e.symm)]
        omega))
      have HB3 := Lib.hid ((HBQ.out.trans HAD.out.2.1).trans hB3)
      clear hP3 hB3 HW1 HAD d4' f4
      go_wp2_with fail
      refine HW2.out.mono ?_
      rintro e' w4 ⟨rfl, ⟨f4, hP4⟩, hB4⟩
      have hP5 : PB B m f4 tv (.slice (some ⟨g, 0, none⟩) (S.cls.length + 1) cap2) false (vs ++ [.int .i64 x, .int .i64 y, .slice a c.length cap, .int .i64 0]) { S with cls := S.cls ++ [⟨x, y, c, 0⟩], watch := upd (upd S.watch x (S.watch x ++ [(S.cls.length : Int)])) y (S.watch y ++ [(S.cls.length : Int)]) } w4 := by
        have h9 := hP4
        rw [upd_other S.watch _ (fun e => HXY.out e.symm)] at h9
        exact h9
      have HP5 := Lib.hid hP5
      have HB4 := Lib.hid (HB3.out.trans hB4)
      clear hP4 hP5 hB4 HW2
      go_wp2
      go_end0
      exact ⟨_, false, rfl, HFIN.out, ⟨_, _, _, _, HP5.out⟩, HB4⟩

/-- What is behind refuses. -/
def RefPost (G : List (List Int)) (n : Nat) (c : List Int) (S S' : Sb) (fl' : Bool) (b : Bool) : Prop :=
  (b = true → ¬ Fails G (negs c)) ∧ (b = false → Fails G (negs c) ∧ BaseOk (G ++ [c]) n S' fl' ∧ S'.cls.length ≤ S.cls.length + 1)
set_option maxRecDepth 100000 in
set_option maxHeartbeats 4000000 in
theorem refuses_any (h : PB B m f tv cv fl vs S w) {G : List (List Int)} (H : BaseOk G m.n S fl) {c : List Int} {a : Option Addr} {cap : Nat} (hX : IntsR w a c) (hp : 0 < c.length → ∀ p, a = some p → p.block < B ∧ p.block < w.heap.size) (hl : c.length ≤ 1000000) (hc : c.length ≤ cap) (hc2 : cap ≤ maxLen)
    (hok : ∀ x ∈ c, x ≠ 0 ∧ x.natAbs ≤ m.n) (hnn : m.n ≤ 1000000) (hcl : S.cls.length ≤ 100000000) :
    Calls Try.prog 57 #[.pointer (some ⟨m.pb, 0, none⟩), .slice a c.length cap] w fun e w' => ∃ b S' fl', e = .returned (.bool b) ∧ RefPost G m.n c S S' fl' b ∧ Hid (∃ f' tv' cv' vs', PB B m f' tv' cv' fl' vs' S' w') ∧ Hid (Below B w w') := by
  have HIM := Lib.hid (implies_any (cap := cap) h H hX hl hok hnn (by omega))
  have HOK := Lib.hid hok
  have HNN := Lib.hid hnn
  have HCL := Lib.hid hcl
  have HX := Lib.hid hX
  have HPP := Lib.hid hp
  have HC2 := Lib.hid hc2
  have HC := Lib.hid hc
  have HSZ := Lib.hid h.size
  clear h H hX hp hok hnn hcl hc hc2 hl
  go_enter Try.func57, Try.ntmps57
  go_wp2_with fail
  refine HIM.out.mono ?_
  rintro e' w1 ⟨b, S1, rfl, hpost, HP1, HB1⟩
  have HR := Lib.hid hpost
  clear hpost HIM
  have hbb : b = true ∨ b = false := by cases b <;> simp
  rcases hbb with rfl | rfl
  · have HFA : Hid (Fails G (negs c)) := HR.out.1.1 (by trivial)
    have HAD : Hid (Calls Try.prog 55 #[.pointer (some ⟨m.pb, 0, none⟩), .slice a c.length cap] w1 fun e w' => ∃ S' fl', e = .returned (.tuple #[]) ∧ AddPost (G ++ [c]) m.n S1 S' fl' ∧ Hid (∃ f' tv' cv' vs', PB B m f' tv' cv' fl' vs' S' w') ∧ Hid (Below B w1 w')) := by
      obtain ⟨f1, tv1, vs1, h1⟩ := HP1.out
      exact add_any h1 HR.out.2.1 (by
        by_cases h0 : c.length = 0
        · exact .inl h0
        · exact HX.out.stays HB1.out.size fun p hp => HB1.out.block _ (HPP.out (by omega) p hp).1) (fun h0 p hp => ⟨(HPP.out h0 p hp).1, Nat.lt_of_lt_of_le (HPP.out h0 p hp).2 HB1.out.size⟩) HC.out HC2.out HOK.out HNN.out (by rw [HR.out.2.2]; exact HCL.out)
    have HLN := Lib.hid HR.out.2.2
    clear HR
    go_wp2_with fail
    refine HAD.out.mono ?_
    rintro e' w2 ⟨S2, fl2, rfl, hpost, HP2, HB2⟩
    have HFIN : Hid (RefPost G m.n c S S2 fl2 false) := ⟨(fun h => by cases h), fun _ => ⟨HFA.out, hpost.1, by have := hpost.2; rw [HLN.out] at this; exact this⟩⟩
    clear hpost HAD
    go_wp2
    go_ret
    exact ⟨false, S2, fl2, rfl, HFIN.out, HP2, HB1.out.trans HB2.out⟩
  · have HFIN : Hid (RefPost G m.n c S S1 fl true) := ⟨(fun _ h => by have := HR.out.1.2 h; cases this), (fun h => by cases h)⟩
    clear HR
    go_wp2
    go_ret
    obtain ⟨f1, tv1, vs1, h1⟩ := HP1.out
    exact ⟨true, S1, fl, rfl, HFIN.out, ⟨_, _, _, _, h1⟩, HB1⟩
end

/-! RupN -/
theorem made_rows (n : Nat) : ∀ w : World, n ≤ 2000002 → (Instr.makeSlice 24 (.int .i64 n) (.int .i64 n)).run Try.prog w = .ok (.slice (some ⟨w.heap.size, 0, none⟩) n n) (w.alloc (.cells (madeCells #[.slice none 0 0] n) 23)) := by
  intro w hn
  obtain ⟨i0, hi, hz0, hz1, hz2⟩ := info_parts Try.info23
  have h := run_make (P := Try.prog) w 24 23 i0 (.slice none 0 0) Try.underlying24 hi hz0 .i64 .i64 n n (by omega) (by omega) (by rw [hz2]; omega) (by omega)
  rw [hz1] at h
  simp only [Int.toNat_natCast, Nat.mul_one] at h
  exact h
theorem toList_madeCells_nil (n : Nat) : (madeCells #[Value.slice none 0 0] n).toList = List.replicate n (.slice none 0 0) := toList_madeCells_one _ _

/-- What newBase makes. -/
def MadeB (B n pb : Nat) (W : World) : Prop := ∃ m f, m.pb = pb ∧ m.n = n ∧ PB B m f nilS nilS false [] ⟨List.replicate (n + 1) 0, [], 0, fun _ => [], []⟩ W
theorem madeB_of {wa W : World} {n n1 n2 kb wb pb : Nat} (hn1 : n + 1 = n1) (hn2 : 2 * n + 2 = n2) (hk : At wa W kb (.cells (madeCells #[.int .i64 0] n1) 3)) (hw : At wa W wb (.cells (madeCells #[.slice none 0 0] n2) 23))
    (hp : At wa W pb (.cells #[.slice (some ⟨kb, 0, none⟩) n1 n1, .slice none 0 0, .int .i64 0, .slice (some ⟨wb, 0, none⟩) n2 n2, .slice none 0 0, .bool false] 105)) : MadeB wa.heap.size n pb W := by
  subst hn1 hn2
  obtain ⟨gk, hk⟩ := hk
  obtain ⟨gw, hw⟩ := hw
  obtain ⟨gp, hp⟩ := hp
  have ne : ∀ {b b' : Nat} {o o' : Obj}, W.heap[b]? = some o → W.heap[b']? = some o' → o ≠ o' → b ≠ b' := fun h1 h2 hne e => hne (by rw [e, h2] at h1; exact (Option.some.inj h1).symm)
  have n1 : pb ≠ kb := ne hp hk (by simp)
  have n2 : pb ≠ wb := ne hp hw (by simp)
  have n3 : kb ≠ wb := ne hk hw (by simp)
  have lt : ∀ {b : Nat} {o : Obj}, W.heap[b]? = some o → b < W.heap.size := fun h => (Array.getElem?_eq_some_iff.1 h).1
  have ho : ∀ i g, own ⟨pb, kb, wb, n⟩ (fun _ => nilS) nilS nilS i = some g → (i = 0 ∧ g = pb) ∨ (i = 1 ∧ g = kb) ∨ (i = 2 ∧ g = wb) := fun i g h => by
    match i, h with
    | 0, h => cases h; exact .inl ⟨rfl, rfl⟩
    | 1, h => cases h; exact .inr (.inl ⟨rfl, rfl⟩)
    | 2, h => cases h; exact .inr (.inr ⟨rfl, rfl⟩)
    | 3, h => cases h
    | 4, h => cases h
    | p + 5, h => cases h
  refine ⟨⟨pb, kb, wb, n⟩, fun _ => nilS, rfl, rfl, fun i g h => ?_, fun i j g hi hj => ?_, hp, ?_, by simp, ?_, fun x => World.ownsRow_nil _ _ _ _, World.ownsRow_nil _ _ _ _, World.ownsRow_nil _ _ _ _, fun j e he => by simp at he⟩
  · rcases ho i g h with ⟨_, rfl⟩ | ⟨_, rfl⟩ | ⟨_, rfl⟩
    · exact ⟨gp, lt hp⟩
    · exact ⟨gk, lt hk⟩
    · exact ⟨gw, lt hw⟩
  · rcases ho i g hi with ⟨rfl, h1⟩ | ⟨rfl, h1⟩ | ⟨rfl, h1⟩ <;> rcases ho j g hj with ⟨rfl, h2⟩ | ⟨rfl, h2⟩ | ⟨rfl, h2⟩ <;> omega
  · show W.heap[kb]? = _
    rw [hk]
    congr 2
    rw [← Array.toList_inj, toList_madeCells_one, List.toList_toArray, List.map_replicate]
  · show W.heap[wb]? = _
    rw [hw]
    congr 2
    rw [← Array.toList_inj, toList_madeCells_one, List.toList_toArray]
    refine List.ext_getElem? fun i => ?_
    rw [List.getElem?_replicate, List.getElem?_map]
    by_cases hi : i < 2 * n + 2
    · rw [if_pos hi, List.getElem?_range hi]; rfl
    · rw [if_neg hi, List.getElem?_eq_none (by simp; omega)]; rfl

section
variable (wa : World) (o1 o2 o3 : Obj)
abbrev Ch3 : World := (((wa.alloc o1).alloc o2).alloc o3).drew
theorem ch30 : At wa (Ch3 wa o1 o2 o3) (wa.heap.size) o1 := ⟨by omega, chOld _ (chOld _ (chNew (by simp)))⟩
theorem ch31 : At wa (Ch3 wa o1 o2 o3) (wa.heap.size + 1) o2 := ⟨by omega, chOld _ (chNew (by simp))⟩
theorem ch32 : At wa (Ch3 wa o1 o2 o3) (wa.heap.size + 1 + 1) o3 := ⟨by omega, chNew (by simp)⟩
theorem ch3B : Below wa.heap.size wa (Ch3 wa o1 o2 o3) := (belowAlloc (belowAlloc (belowAlloc (Below.refl _ _) _) _) _).drew
end

set_option maxHeartbeats 4000000 in
theorem newBase_any {n : Nat} (hn : n ≤ 1000000) (w : World) :
    Calls Try.prog 54 #[.int .i64 n] w fun e w' => ∃ m f, e = .returned (.pointer (some ⟨m.pb, 0, none⟩)) ∧ m.n = n ∧ PB w.heap.size m f nilS nilS false [] ⟨List.replicate (n + 1) 0, [], 0, fun _ => [], []⟩ w' ∧ Below w.heap.size w w' := by
  obtain ⟨n1, hn1⟩ : ∃ n1, n + 1 = n1 := ⟨_, rfl⟩
  obtain ⟨n2, hn2⟩ : ∃ n2, 2 * n + 2 = n2 := ⟨_, rfl⟩
  have hk1 := fun W => made_int n1 W (by omega)
  have hk2 := fun W => made_rows n2 W (by omega)
  have hw1 : IntKind.i64.wrap (↑n + 1) = (n1 : Int) := by rw [← hn1]; exact IntWalk.i64_in _ (by omega)
  have hw2 : IntKind.i64.wrap (2 * ↑n) = 2 * (n : Int) := IntWalk.i64_in _ (by omega)
  have hw3 : IntKind.i64.wrap (2 * ↑n + 2) = (n2 : Int) := by rw [show (2 * (n : Int) + 2) = (n2 : Int) by omega]; exact IntWalk.i64_in _ (by omega)
  have HN1 := Lib.hid hn1
  have HN2 := Lib.hid hn2
  have HFIN : Hid (∀ (pb : Nat) (W : World), MadeB w.heap.size n pb W → Below w.heap.size w W → (∃ m f, Ending.returned (.pointer (some ⟨pb, 0, none⟩)) = .returned (.pointer (some ⟨m.pb, 0, none⟩)) ∧ m.n = n ∧ PB w.heap.size m f nilS nilS false [] ⟨List.replicate (n + 1) 0, [], 0, fun _ => [], []⟩ W ∧ Below w.heap.size w W)) := fun pb W ⟨m, f, h1, h2, h3⟩ hb =>
    ⟨m, f, by rw [h1], h2, h3, hb⟩
  clear hn1 hn2 hn
  go_enter Try.func54, Try.ntmps54
  go_wp2
  go_region_held3 (fun _ => True) (trivial) (fail)
  all_goals (go_wp2_with fail; go_ret; refine HFIN.out _ _ (madeB_of HN1.out HN2.out ?_ ?_ (ch32 _ _ _ _)) (ch3B _ _ _ _) <;> first | exact ch30 _ _ _ _ | exact ch31 _ _ _ _)

/-! The proof, clause by clause. -/
/-- The clause number k follows from the formula and the clauses before it. -/
def GoodAt (G P : List (List Int)) (k : Nat) : Prop := ∀ z, P[k]? = some z → Fails (G ++ P.take k) (negs z)
def FirstBad (G P : List (List Int)) (k : Nat) : Prop := k < P.length ∧ ¬ GoodAt G P k ∧ ∀ j, j < k → GoodAt G P j
def AllGood (G P : List (List Int)) : Prop := ∀ j, j < P.length → GoodAt G P j

set_option maxRecDepth 100000 in
set_option maxHeartbeats 4000000 in
theorem indexFunc_any {B : Nat} {m : Mb} {f : Nat → Value} {tv cv : Value} {fl : Bool} {vs : List Value} {S : Sb} {w w0 : World} (h : PB B m f tv cv fl vs S w) {G P : List (List Int)} (H : BaseOk G m.n S fl) {a : Option Addr} {cap : Nat} (hB : w0.heap.size = B) (hR : RowsR .i64 w0 a P) (hb : Below B w0 w)
    (hPl : P.length ≤ 2000000) (hl : ∀ z ∈ P, z.length ≤ 1000000) (hok : ∀ z ∈ P, ∀ x ∈ z, x ≠ 0 ∧ x.natAbs ≤ m.n) (hnn : m.n ≤ 1000000) (hcl : S.cls.length ≤ 2000000) :
    Calls Try.prog 56 #[.slice a P.length cap, .func (.func 57) #[.pointer (some ⟨m.pb, 0, none⟩)] #[]] w fun e w' => ∃ i : Int, e = .returned (.int .i64 i) ∧ ((i = -1 ∧ AllGood G P) ∨ ∃ k : Nat, i = k ∧ FirstBad G P k) ∧ Below B w w' := by
  have HP := Lib.hid h
  have HH := Lib.hid H
  have HB := Lib.hid hB
  have HR := Lib.hid hR
  have HBW := Lib.hid hb
  have HL := Lib.hid hl
  have HOK := Lib.hid hok
  have HNN := Lib.hid hnn
  have HCL := Lib.hid hcl
  have hPI : (P.length : Int) ≤ 2000000 := by omega
  clear h H hB hR hb hl hok hnn hcl
  go_enter Try.func56, Try.ntmps56
  go_wp2
  go_loopw [5, 8] (fun i5 i wr => ∃ (k : Nat) (S1 : Sb) (fl1 : Bool), i = .int .i64 k ∧ k ≤ P.length ∧ Hid (∃ f1 tv1 cv1 vs1, PB B m f1 tv1 cv1 fl1 vs1 S1 wr) ∧ Hid (BaseOk (G ++ P.take k) m.n S1 fl1 ∧ S1.cls.length ≤ S.cls.length + k ∧ ∀ j, j < k → GoodAt G P j) ∧ Hid (Below B w wr)) (fun _ i _ => P.length - (intOf i).toNat)
  case atStart => exact ⟨0, S, fl, rfl, Nat.zero_le _, ⟨_, _, _, _, HP.out⟩, ⟨by rw [List.take_zero, List.append_nil]; exact HH.out, by omega, fun j hj => by omega⟩, Below.refl _ _⟩
  case round =>
    obtain ⟨k, S1, fl1, rfl, hk, HPE, HI, HB1⟩ := hrel
    obtain ⟨f1, tv1, cv1, vs1, hP1⟩ := HPE.out
    by_cases hlt : k < P.length
    · obtain ⟨b, off, aj, cj, z, rfl, hbs, hz, hcz, hK, hle, hmx⟩ := HR.out.atC hlt
      have hBw := HBW.out.trans HB1.out
      have hcell : wr.cell? ⟨b, off + k, none⟩ = some (.slice aj z.length cj) := by rw [hBw.cell (p := ⟨b, off + k, none⟩) (by rw [← HB.out]; exact hbs)]; exact hcz
      have hKI : IntsR wr aj z := hK.out.ints.below (by rw [HB.out]; exact hBw)
      have hzm : z ∈ P := List.mem_of_getElem? hz.out
      have hrf : Hid (Calls Try.prog 57 #[.pointer (some ⟨m.pb, 0, none⟩), .slice aj z.length cj] wr fun e w' => ∃ b S' fl', e = .returned (.bool b) ∧ RefPost (G ++ P.take k) m.n z S1 S' fl' b ∧ Hid (∃ f' tv' cv' vs', PB B m f' tv' cv' fl' vs' S' w') ∧ Hid (Below B wr w')) := by
        exact refuses_any hP1 HI.out.1 hKI (fun h0 p hp => by
          rcases hK.out with h1 | ⟨b1, off1, h1, h2, _⟩
          · omega
          · rw [h1] at hp; cases hp
            rw [HB.out] at h2
            exact ⟨h2, Nat.lt_of_lt_of_le h2 hP1.size⟩) (HL.out z hzm) hle hmx (HOK.out z hzm) HNN.out (by have := HI.out.2.1; have := HCL.out; omega)
      have htk : P.take (k + 1) = P.take k ++ [z] := take_snoc _ _ _ hz.out
      have HTK := Lib.hid htk
      clear hP1 HPE hcz hK hBw hKI hzm htk hle hmx
      go_wp2_with fail
      refine hrf.out.mono ?_
      rintro e' w1 ⟨bb, S2, fl2, rfl, hpost, HP2, HB2⟩
      have HPO := Lib.hid hpost
      have HB3 := Lib.hid (HB1.out.trans HB2.out)
      clear hpost hrf hcell
      have hbb : bb = true ∨ bb = false := by cases bb <;> simp
      rcases hbb with rfl | rfl
      · have HFB : Hid (FirstBad G P k) := by
          have h1 := HPO.out.1 (by trivial)
          exact ⟨hlt, fun h => h1 (h z hz.out), HI.out.2.2⟩
        go_wp2
        go_ret
        exact ⟨(k : Int), rfl, .inr ⟨k, rfl, HFB.out⟩, HB3.out⟩
      · have HI2 : Hid (BaseOk (G ++ P.take (k + 1)) m.n S2 fl2 ∧ S2.cls.length ≤ S.cls.length + (k + 1) ∧ ∀ j, j < k + 1 → GoodAt G P j) := by
          obtain ⟨g1, g2, g3⟩ := HPO.out.2 (by trivial)
          refine ⟨by rw [HTK.out, ← List.append_assoc]; exact g2, by have := HI.out.2.1; omega, fun j hj => ?_⟩
          by_cases hjk : j = k
          · subst hjk
            intro y hy
            rw [hz.out] at hy
            cases hy
            exact g1
          · exact HI.out.2.2 j (by omega)
        go_wp2
        go_roundw
        case rel => exact ⟨k + 1, S2, fl2, by go_num, by omega, HP2, HI2, HB3⟩
        case measure => simp [intOf]; omega
    · have HFIN : Hid (AllGood G P) := fun j hj => HI.out.2.2 j (by omega)
      clear hP1 HPE
      go_wp2
      go_ret
      exact ⟨-1, rfl, .inl ⟨rfl, HFIN.out⟩, HB1.out⟩

/-! RupO -/
/-- What Check answers for a valid formula and valid clauses. -/
def ChkV (F P : List (List Int)) (v : Int) : Prop := (∃ k : Nat, v = k ∧ FirstBad F P k) ∨ (AllGood F P ∧ v = if P.getLast? = some [] then -1 else (P.length : Int))

set_option maxRecDepth 100000 in
set_option maxHeartbeats 4000000 in
theorem firstRefused_any {n : Nat} {F P : List (List Int)} (a : Option Addr) (c : Nat) (pa : Option Addr) (pc : Nat) (w : World) (hn : n ≤ 1000000) (hFl : F.length ≤ 1048576) (hF : RowsR .i64 w a F) (hFo : ∀ z ∈ F, ∀ x ∈ z, x ≠ 0 ∧ x.natAbs ≤ n)
    (hPl : P.length ≤ 1048576) (hP : RowsR .i64 w pa P) (hPo : ∀ z ∈ P, ∀ x ∈ z, x ≠ 0 ∧ x.natAbs ≤ n) (hPz : ∀ z ∈ P, z.length ≤ 1000000) :
    Calls Try.prog 39 #[.agg #[.int .i64 n, .slice a F.length c], .slice pa P.length pc] w fun e w' => ∃ v : Int, e = .returned (.int .i64 v) ∧ ChkV F P v ∧ Below w.heap.size w w' := by
  have h0 := Lib.hid (box0 w (.int .i64 n) (.slice a F.length c) 26)
  have h1 := Lib.hid (box1 w (.int .i64 n) (.slice a F.length c) 26)
  have HF := Lib.hid (hF.alloc (.cells #[.int .i64 n, .slice a F.length c] 26))
  have HPR := Lib.hid (hP.alloc (.cells #[.int .i64 n, .slice a F.length c] 26))
  have HFB := Lib.hid hF
  have HFO := Lib.hid hFo
  have HPO := Lib.hid hPo
  have HPZ := Lib.hid hPz
  have HN := Lib.hid hn
  have HPRB := Lib.hid hP
  have hFI : (F.length : Int) ≤ 1048576 := by omega
  have hPI : (P.length : Int) ≤ 1048576 := by omega
  have HBX := Lib.hid (boxed w (.cells #[.int .i64 n, .slice a F.length c] 26))
  have HWS : Hid ((w.alloc (.cells #[.int .i64 n, .slice a F.length c] 26)).heap.size = w.heap.size + 1) := by unfold Hid; simp
  clear hF hFo hP hPo hPz hn
  go_enter Try.func39, Try.ntmps39
  go_wp2_with fail
  generalize (w.alloc (.cells #[.int .i64 n, .slice a F.length c] 26)) = wa at *
  have h0' := h0.out
  have h1' := h1.out
  refine (newBase_any HN.out wa).mono ?_
  rintro e' w1 ⟨m, f, rfl, hmn, hP1, hB1⟩
  have c1 : w1.cell? ⟨w.heap.size, 1, none⟩ = some (.slice a F.length c) := by rw [hB1.cell (p := ⟨w.heap.size, 1, none⟩) (by rw [HWS.out]; exact Nat.lt_succ_self _)]; exact h1'
  have HP1 := Lib.hid hP1
  have HB1 := Lib.hid hB1
  have HMN := Lib.hid hmn
  clear hP1 hB1 hmn h0' h1'
  go_wp2
  go_loopw [7, 16] (fun c7 i wr => ∃ (k : Nat) (S1 : Sb) (fl1 : Bool), i = .int .i64 k ∧ k ≤ F.length ∧ Hid (∃ f1 tv1 cv1 vs1, PB wa.heap.size m f1 tv1 cv1 fl1 vs1 S1 wr) ∧ Hid (BaseOk (F.take k) m.n S1 fl1 ∧ S1.cls.length ≤ k) ∧ Hid (Below wa.heap.size wa wr)) (fun _ i _ => F.length - (intOf i).toNat)
  case atStart => exact ⟨0, _, false, rfl, Nat.zero_le _, ⟨_, _, _, _, HP1.out⟩, ⟨⟨(fun h => by cases h), fun _ => by rw [List.take_zero, HMN.out]; exact Base.start n⟩, by simp⟩, HB1⟩
  case round =>
    obtain ⟨k, S1, fl1, rfl, hk, HPE, HI, HB2⟩ := hrel
    obtain ⟨f1, tv1, cv1, vs1, hP2⟩ := HPE.out
    by_cases hlt : k < F.length
    · obtain ⟨b, off, aj, cj, z, rfl, hbs, hz, hcz, hK, hle, hmx⟩ := HF.out.atC hlt
      have hcell : wr.cell? ⟨b, off + k, none⟩ = some (.slice aj z.length cj) := by rw [HB2.out.cell (p := ⟨b, off + k, none⟩) hbs]; exact hcz
      have hKI : IntsR wr aj z := hK.out.ints.below HB2.out
      have hzm : z ∈ F := List.mem_of_getElem? hz.out
      have hadd := add_any hP2 HI.out.1 hKI (fun h0 p hp => by
        rcases hK.out with h1 | ⟨b1, off1, h1, h2, _⟩
        · omega
        · rw [h1] at hp; cases hp
          exact ⟨h2, Nat.lt_of_lt_of_le h2 HB2.out.size⟩) hle hmx (fun x hx => by rw [HMN.out]; exact HFO.out z hzm x hx) (by rw [HMN.out]; exact HN.out) (by have := HI.out.2; omega)
      have HAD := Lib.hid hadd
      have htk : F.take (k + 1) = F.take k ++ [z] := take_snoc _ _ _ hz.out
      have HTK := Lib.hid htk
      clear hP2 HPE hcz hK hKI hzm htk hle hmx hadd
      go_wp2_with fail
      refine HAD.out.mono ?_
      rintro e' w2 ⟨S2, fl2, rfl, hpost, HP2, HB3⟩
      have HI2 : Hid (BaseOk (F.take (k + 1)) m.n S2 fl2 ∧ S2.cls.length ≤ k + 1) := by
        unfold Hid
        rw [HTK.out]
        exact ⟨hpost.1, by have := hpost.2; have := HI.out.2; omega⟩
      have HB4 := Lib.hid (HB2.out.trans HB3.out)
      clear hpost HAD hcell
      go_wp2
      go_roundw
      case rel => exact ⟨k + 1, S2, fl2, by go_num, by omega, HP2, HI2, HB4⟩
      case measure => simp [intOf]; omega
    · have hkl : k = F.length := by omega
      have hI := HI.out
      rw [hkl, List.take_length] at hI
      have hix := indexFunc_any (cap := pc) hP2 (w0 := wa) hI.1 rfl HPR.out HB2.out (by omega) HPZ.out (fun z hz x hx => by rw [HMN.out]; exact HPO.out z hz x hx) (by rw [HMN.out]; exact HN.out) (by omega)
      have HIX := Lib.hid hix
      have hmf : ∀ (fn : Fn) (first cap : Array Value) (w : World), (Instr.makeFunc fn first cap).run Try.prog w = .ok (.func fn first cap) w := fun _ _ _ _ => rfl
      clear hP2 HPE hkl hI hix
      go_wp2_with fail
      refine HIX.out.mono ?_
      rintro e' w2 ⟨i, rfl, hi, hB3⟩
      have HBE : Hid (Below w.heap.size w w2) := HBX.out.trans ((HB2.out.trans hB3).mono (by rw [HWS.out]; omega))
      have HBW := Lib.hid (HB2.out.trans hB3)
      clear hB3 HIX
      rcases hi with ⟨rfl, hall⟩ | ⟨j, rfl, hbad⟩
      · obtain ⟨Lp, hLp⟩ : ∃ Lp, P.length = Lp := ⟨_, rfl⟩
        have HALL := Lib.hid hall
        cases Lp with
        | zero =>
          have HP0 : Hid (P = []) := List.length_eq_zero_iff.1 hLp
          rw [hLp]
          clear hall hPI hLp
          go_wp2
          go_ret
          refine ⟨0, rfl, .inr ⟨HALL.out, ?_⟩, HBE.out⟩
          rw [HP0.out]; rfl
        | succ Lq =>
          obtain ⟨b, off, aj, cj, z, rfl, hbs, hz, hcz, hK, hle, hmx⟩ := HPR.out.atC (j := Lq) (by omega)
          have hcell : w2.cell? ⟨b, off + Lq, none⟩ = some (.slice aj z.length cj) := by rw [HBW.out.cell (p := ⟨b, off + Lq, none⟩) hbs]; exact hcz
          have hlast : P.getLast? = some z := by rw [List.getLast?_eq_getElem?, hLp, Nat.add_sub_cancel]; exact hz.out
          have hw1 : ((Lq + 1 : Nat) : Int) - 1 = (Lq : Int) := by omega
          have hq1 : ((Lq : Int) == -1) = false := by rw [beq_eq_false_iff_ne]; omega
          have hq2 : (0 : Int) ≤ (Lq : Int) := by omega
          have hq3 : (Lq : Int) < ((Lq + 1 : Nat) : Int) := by omega
          obtain ⟨Lt, hLt⟩ : ∃ Lt, Lq + 1 = Lt := ⟨_, rfl⟩
          rw [hLp]
          rw [hLp] at hPI
          rw [hLt] at hw1 hq3 hPI ⊢
          have hLt0 : (1 : Int) ≤ (Lt : Int) := by omega
          have HLP : Hid (P.length = Lt) := by unfold Hid; rw [hLp, hLt]
          have HLA := Lib.hid hlast
          clear hall hcz hK hLp hLt hlast hle hmx
          by_cases hz0 : z.length = 0
          · have HZ : Hid (z = []) := List.length_eq_zero_iff.1 hz0
            rw [hz0] at hcell
            clear hz0
            go_wp2
            go_ret
            refine ⟨-1, rfl, .inr ⟨HALL.out, ?_⟩, HBE.out⟩
            rw [HLA.out, HZ.out, if_pos rfl]
          · have hzp : (0 : Int) < (z.length : Int) := by omega
            have HZ : Hid (z ≠ []) := fun e => hz0 (by rw [e]; rfl)
            clear hz0
            go_wp2
            go_ret
            refine ⟨(Lt : Int), rfl, .inr ⟨HALL.out, ?_⟩, HBE.out⟩
            rw [HLA.out, if_neg (fun e => HZ.out (Option.some.inj e)), HLP.out]
      · have e1 : ((j : Int) == -1) = false := by rw [beq_eq_false_iff_ne]; omega
        have HBAD := Lib.hid hbad
        clear hbad
        go_wp2
        go_ret
        exact ⟨(j : Int), rfl, .inl ⟨j, rfl, HBAD.out⟩, HBE.out⟩
end Go.Proofs.Ytbljkbdbiceokaa
