/-
  Layer 5's reference: Check.
-/
import Derived.Test.YtbljkbdbiceokaaRupR
import Derived.Test.YtbljkbdbiceokaaRupW
import Derived.BigQuiet
namespace Go.Proofs.Ytbljkbdbiceokaa
open Go.RowKit Go.Lib
open Go.RowKit (Below)

theorem wpList_append_low {w0 w : World} {ops : Array Oper} {rest : List Oper} {o : Oper} {ac : Act} {Q : Exit → Act → World → Prop} (hgd : o.guard = none) (s x : Operand)
    (ho : o.op = .call { callee := .builtin .append, args := #[s, x], argTypes := #[24, 24] }) (v : Value) (hs : ac.eval s = v) (a : Option Addr) (m c : Nat) (hx : ac.eval x = .slice a m c)
    {G Z : List (List Int)} (hM : MixL w0 w v G) (hm : Z.length = m) (hR : RowsR .i64 w0 a Z) (hsm : G.length + m ≤ 1000000) (ha : a = none → m = 0)
    (h : ∀ v' w', MixL w0 w' v' (G ++ Z) → w.grownBy w' v.ownBlock → (v'.ownBlock = v.ownBlock ∨ v'.ownBlock = some w.heap.size) → wpList Try.prog ops Q rest (ac.put o.dst v') w') :
    wpList Try.prog ops Q (o :: rest) ac w := by
  refine wpList_plain hgd fun K hK => ?_
  obtain ⟨v', w', hr, h2, h3, h4⟩ := run_append_low (Z := Z) hM a m c o.type hm hR hsm ha
  unfold Oper.wp execOp
  simp only [ho, resolve, invoke, builtin, Sem.run_bind, Sem.run_pure, Result.andThen_ok, List.map_toArray, List.map_cons, List.map_nil, hs, hx, hr]
  exact hK _ _ (h v' w' h2 h3 h4)

set_option maxRecDepth 100000 in
set_option maxHeartbeats 2000000 in
theorem refFails_any {V : Nat} (hV : V ≤ 1048576) (a : Option Addr) (c : Nat) (F : List (List Int)) (xa : Option Addr) (xc : Nat) (A : List Int) (w : World) (hm : F.length ≤ maxLen) (hA : AllLen F) (hR : RowsR .i64 w a F) (hX : IntsR w xa A) (hxl : A.length ≤ maxLen)
    (hF : ∀ z ∈ F, ∀ x ∈ z, -(V : Int) ≤ x ∧ x ≤ V ∧ x ≠ 0) (hAr : ∀ x ∈ A, -(V : Int) ≤ x ∧ x ≤ V ∧ x ≠ 0) {l k : Nat} (hl : F.length = l) (hk : A.length = k) :
    Calls Try.prog 40 #[.slice a l c, .slice xa k xc] w fun e w' => ∃ b : Bool, e = .returned (.bool b) ∧ (b = true ↔ Fails F A) ∧ Below w.heap.size w w' := by
  subst hl hk
  have HP := Lib.hid (refPropagate_any hV a c F xa xc A w hm hA hR hX hxl hF hAr)
  clear hm hA hR hX hxl hF hAr
  go_enter Try.func40, Try.ntmps40
  go_wp2_with fail
  refine HP.out.mono ?_
  rintro e w1 ⟨hB, (⟨hf, rfl⟩ | ⟨mb, ks, rfl, _, _, _, hf⟩)⟩
  · have HB := Lib.hid hB
    have HF := Lib.hid hf
    clear hB hf
    go_wp2
    go_ret
    exact ⟨true, rfl, ⟨fun _ => HF.out, fun _ => rfl⟩, HB.out⟩
  · have HB := Lib.hid hB
    have HF := Lib.hid hf
    clear hB hf
    go_wp2
    go_ret
    exact ⟨false, rfl, ⟨(fun h => by cases h), fun h => absurd h HF.out⟩, HB.out⟩

theorem goodAt5 {F P : List (List Int)} {k : Nat} {z : List Int} (hz : P[k]? = some z) : GoodAt F P k ↔ Fails (F ++ P.take k) (negs z) := by
  unfold GoodAt
  rw [hz]
  exact ⟨fun h => h z rfl, fun h y hy => by cases hy; exact h⟩
set_option maxRecDepth 100000 in
set_option maxHeartbeats 8000000 in
theorem refCheckP_any {n : Int} {F P : List (List Int)} (a : Option Addr) (c : Nat) (pa : Option Addr) (pc : Nat) (w : World) (hn : n ≤ 1000000) (hFl : F.length ≤ 1000) (hFA : AllLen F) (hF : RowsR .i64 w a F) (hFr : ∀ z ∈ F, ∀ x ∈ z, Rng x)
    (hPl : P.length ≤ 1000) (hPA : AllLen P) (hP : RowsR .i64 w pa P) (hPr : ∀ z ∈ P, ∀ x ∈ z, Rng x) :
    Calls Try.prog 19 #[.agg #[.int .i64 n, .slice a F.length c], .slice pa P.length pc] w fun e w' => Below w.heap.size w w' ∧ ∃ (v : Int) (r : Int), e = .returned (.tuple #[.int .i64 v, .int .i64 r]) ∧ CheckPost n F P v r := by
  obtain ⟨wa, hwa⟩ : ∃ wa, w.alloc (.cells #[.int .i64 n, .slice a F.length c] 26) = wa := ⟨_, rfl⟩
  have hBa : Below w.heap.size w wa := by rw [← hwa]; exact boxed w _
  have HTa : Hid (Two wa w.heap.size (.int .i64 n) (.slice a F.length c)) := by unfold Hid; rw [← hwa]; exact Two.new _ _ _
  have HFa := Lib.hid (hF.below hBa)
  have HPa := Lib.hid (hP.below hBa)
  have HFR := Lib.hid hFr
  have HPR := Lib.hid hPr
  have HFA := Lib.hid hFA
  have HPA := Lib.hid hPA
  have HBa := Lib.hid hBa
  have hmx : maxLen = 9223372036854775807 := rfl
  have hgl : w.heap.size < wa.heap.size := HTa.out.lt
  have HC := Lib.hid (refCheckF_is (zss := F) (n := n) rfl rfl a c wa (by omega) hFA HFa.out)
  have c0 := HTa.out.c0
  have c1 := HTa.out.c1
  obtain ⟨j0, hj, hy0, hy1, hy2⟩ := info_parts Try.infoSl
  clear hBa hF hP hFr hPr hFA hPA
  go_enter Try.func19, Try.ntmps19
  go_wp2_with fail
  clear c0 c1
  refine HC.out.mono ?_
  rintro e w1 ⟨rfl, hB1⟩
  have HT1 := Lib.hid (HTa.out.below hB1 hgl)
  have HF1 := Lib.hid (HFa.out.below hB1)
  have HP1 := Lib.hid (HPa.out.below hB1)
  have HB1 := Lib.hid (HBa.out.trans (hB1.mono HBa.out.size))
  have hg1 : w.heap.size < w1.heap.size := HT1.out.lt
  clear hB1 HC HTa HFa HPa hwa HBa hgl
  by_cases hf : checkF n F = 0
  · have hn0 : 0 ≤ n := Decidable.byContradiction fun h => by rw [checkF_out (by omega)] at hf; cases hf
    obtain ⟨N, rfl⟩ : ∃ N : Nat, n = (N : Int) := ⟨n.toNat, by omega⟩
    have HD : Hid (dv N F P = errs N P) := by unfold Hid; rw [dv_ok hf]; exact checkF_in (by omega) (by omega)
    rw [hf]
    have HFZ := Lib.hid hf
    clear hf
    go_wp2
    go_loopw [7, 8] (fun i _ wr => ∃ k : Nat, k ≤ P.length ∧ i = .int .i64 k ∧ Hid (FineTo N P k) ∧ Hid (QuietTo w1 wr)) (fun i _ _ => P.length - (intOf i).toNat)
    case atStart => exact ⟨0, Nat.zero_le _, rfl, (fun j z hj => by omega), QuietTo.rfl'⟩
    case round =>
      obtain ⟨k, hk, rfl, HS, HQ⟩ := hrel
      have HTr := Lib.hid (HT1.out.below (quietBelow HQ.out w1.heap.size) hg1)
      have c0 := HTr.out.c0
      have hR := HP1.out.quiet HQ.out
      by_cases hlt : k < P.length
      · obtain ⟨b, off, aj, cj, zs, rfl, hbs, HZ, hc, HK⟩ := hR.at hlt
        have hzl := HPA.out.at HZ.out
        clear hR
        by_cases hv : checkI N zs = 0
        · have hS := Lib.hid (HS.out.succ HZ.out hv)
          have HV := Lib.hid hv
          clear hv
          go_wp2
          go_quiet ((go_at_call 35; exact Calls.quiet_of_same (refCheck_is (zs := zs) rfl HV.out aj cj _ hzl HK.out)))
          go_wp2
          go_roundw
          case rel => exact ⟨k + 1, by omega, by go_num, hS, HQ.out.on _⟩
          case measure => simp [intOf]; omega
        · have hS := Lib.hid (errs_at HS.out HZ.out hv)
          obtain ⟨r, hr⟩ : ∃ r, checkI N zs = r := ⟨_, rfl⟩
          have hr0 : r ≠ 0 := by rw [← hr]; exact hv
          have e1 : (r != 0) = true := by simp [hr0]
          have HV := Lib.hid hr
          have HR0 := Lib.hid hr0
          clear hv hr
          go_wp2
          go_quiet ((go_at_call 35; exact Calls.quiet_of_same (refCheck_is (zs := zs) rfl HV.out aj cj _ hzl HK.out)))
          go_wp2
          go_ret2
          exact ⟨HB1.out.trans (quietBelow (HQ.out.on _) _), 0, r, rfl, .inr ⟨by rw [HD.out, hS.out, HV.out]; exact HR0.out, by rw [HD.out, hS.out, HV.out], rfl⟩⟩
      · obtain rfl : k = P.length := by omega
        have hS := Lib.hid (errs_none HS.out)
        have HDZ : Hid (dv N F P = 0) := by unfold Hid; rw [HD.out]; exact hS.out
        obtain ⟨z1, z2, z3, z4, z5, z6⟩ := dv_zero HFR.out HPR.out HDZ.out
        have HF5 : Hid (∀ z ∈ F, z.length ≤ 4096 ∧ ∀ x ∈ z, -(N : Int) ≤ x ∧ x ≤ N ∧ x ≠ 0) := fun z hz => ⟨z3 z hz, fun x hx => by have := z5 z hz x hx; omega⟩
        have HP5 : Hid (∀ z ∈ P, z.length ≤ 4096 ∧ ∀ x ∈ z, -(N : Int) ≤ x ∧ x ≤ N ∧ x ≠ 0) := fun z hz => ⟨z4 z hz, fun x hx => by have := z6 z hz x hx; omega⟩
        obtain ⟨w2, rfl⟩ : ∃ w2 : World, w2 = wr := ⟨_, rfl⟩
        have HF2 := Lib.hid (HF1.out.quiet HQ.out)
        have HP2 := Lib.hid (HP1.out.quiet HQ.out)
        have HB2 := Lib.hid (HB1.out.trans (quietBelow HQ.out _))
        have hfa : a = none → F.length = 0 := fun h => by
          rcases HF2.out with h0 | ⟨b0, off0, h1, _⟩
          · exact h0
          · rw [h1] at h; cases h
        have c1 := HTr.out.c1
        clear z1 z2 z3 z4 z5 z6 hR HS hS HD
        go_wp2_with (at_builtin; refine wpList_append_low rfl _ _ rfl (.slice none 0 0) (by rfl) a F.length c (by rfl) (MixL.nil (Below.refl w2.heap.size w2)) rfl HF2.out (by simp; omega) hfa ?_)
        intro v3 w3 hM3 _ _
        have HM3 : Hid (MixL w2 w3 v3 (F ++ P.take 0)) := by unfold Hid; rw [List.take_zero, List.append_nil]; exact hM3
        clear hM3 hfa c0 c1
        go_wp2
        go_loopw [9, 10] (fun vv i wr => ∃ q : Nat, i = .int .i64 q ∧ q ≤ P.length ∧ Hid (∀ j, j < q → GoodAt F P j) ∧ Hid (MixL w2 wr vv (F ++ P.take q))) (fun _ i _ => P.length - (intOf i).toNat)
        case atStart => exact ⟨0, rfl, Nat.zero_le _, (fun j hj => absurd hj (Nat.not_lt_zero _)), HM3⟩
        case round =>
          obtain ⟨q, rfl, hq, HG, HM⟩ := hrel
          have HPr := Lib.hid (HP2.out.below HM.out.below)
          have HBr := Lib.hid (HB2.out.trans (HM.out.below.mono HB2.out.size))
          by_cases hlq : q < P.length
          · obtain ⟨ga, gc, rfl, _, hGR⟩ := HM.out.rows
            obtain ⟨bb, off, aj, cj, z, he, hbs, HZ, hcz, HK, hz1', hz2'⟩ := HP2.out.atC hlq
            subst he
            have hzm : z ∈ P := List.mem_of_getElem? HZ.out
            have HZ5 := Lib.hid (HP5.out z hzm)
            have hzl : z.length ≤ 4096 := HZ5.out.1
            have hc' : wr.cell? ⟨bb, off + q, none⟩ = some (.slice aj z.length cj) := (HM.out.below.cell (p := ⟨bb, off + q, none⟩) hbs).trans hcz
            have HKr := Lib.hid ((KI.below HK.out (by exact HM.out.below)).ints)
            obtain ⟨gn, hgn⟩ : ∃ gn, (F ++ P.take q).length = gn := ⟨_, rfl⟩
            have hgl : gn ≤ 2000 := by rw [List.length_append, List.length_take] at hgn; omega
            have HGR := Lib.hid hGR
            have HGN := Lib.hid hgn
            have HLR : Hid (LowRow w2 (.slice aj z.length cj) z) := ⟨aj, cj, rfl, HK.out.ints, hz1', hz2'⟩
            have HCZ : Hid (∀ W, Below w2.heap.size w2 W → W.cell? ⟨bb, off + q, none⟩ = some (.slice aj z.length cj)) := fun W hW => (hW.cell (p := ⟨bb, off + q, none⟩) hbs).trans hcz
            rw [hgn] at HM
            rw [hgn]
            clear hzm hGR hgn hcz hz1' hz2'
            go_wp2_with fail
            refine (refNegs_any aj cj z _ (by omega) HKr.out (fun x hx => by have := HZ5.out.2 x hx; omega)).mono ?_
            rintro e w5 ⟨nv, rfl, hO, hB5⟩
            obtain ⟨na, nc, rfl, hNI⟩ := hO.reads
            rw [negs_len]
            have HNI := Lib.hid hNI
            have HM5 := Lib.hid (HM.out.on hB5)
            have HGR5 := Lib.hid (HGR.out.below hB5)
            have hc5 := HCZ.out _ HM5.out.below
            clear hO hNI hB5 hc'
            go_wp2_with fail
            refine (refFails_any (V := N) (by omega) ga gc (F ++ P.take q) na nc (negs z) w5 (by rw [HGN.out]; omega) (fun y hy => ?_) HGR5.out HNI.out (by rw [negs_len]; omega) (fun y hy => ?_) (fun x hx => by have := HZ5.out.2 _ (mem_negs.1 hx); omega) HGN.out (negs_len z)).mono ?_
            · rcases List.mem_append.1 hy with hy | hy
              · have := (HF5.out y hy).1; omega
              · have := (HP5.out y (List.mem_of_mem_take hy)).1; omega
            · rcases List.mem_append.1 hy with hy | hy
              · exact (HF5.out y hy).2
              · exact (HP5.out y (List.mem_of_mem_take hy)).2
            rintro e w6 ⟨bv, rfl, hbv, hB6⟩
            have HM6 := Lib.hid (HM5.out.on hB6)
            have hc6 := HCZ.out _ HM6.out.below
            have hgd : bv = true ↔ GoodAt F P q := hbv.trans (goodAt5 HZ.out).symm
            have HB6 := Lib.hid (HB2.out.trans (HM6.out.below.mono HB2.out.size))
            clear hB6 hbv hc5
            cases bv
            · have hfb : FirstBad F P q := ⟨hlq, (fun h => by have := hgd.2 h; cases this), HG.out⟩
              have HFB := Lib.hid hfb
              clear hfb hgd
              go_wp2
              go_ret2
              exact ⟨HB6.out, (q : Int), 0, rfl, .inl ⟨HDZ.out, rfl, .inl ⟨q, rfl, HFB.out⟩⟩⟩
            · have HG2 : Hid (∀ j, j < q + 1 → GoodAt F P j) := fun j hj => by
                by_cases e : j = q
                · subst e; exact hgd.1 rfl
                · exact HG.out j (by omega)
              obtain ⟨hbm, vs, hv6, hrows⟩ := HM6.out
              rw [HGN.out] at hv6
              have HBM := Lib.hid hbm
              have HV6 := Lib.hid hv6
              have HRW := Lib.hid hrows
              have htk : P.take (q + 1) = P.take q ++ [z] := take_snoc _ _ _ HZ.out
              have HTK := Lib.hid htk
              clear hbm hv6 hrows hgd htk
              go_wp2_with (at_builtin; refine wpList_append_own _ rfl _ _ 24 rfl w2.heap.size 23 j0 (.slice none 0 0) 1 24 Try.underlying24 hj hy0 hy1 hy2 rfl (by decide) _ gn vs rfl (World.ownsRow.alloc HV6.out _) ⟨w6.heap.size, 0, none⟩ 1 1 [.slice aj z.length cj] rfl rfl (one_new (by simp)) one_slice ?d3 ?d4 ?d5 ?_)
              case d3 => omega
              case d4 => omega
              case d5 => have := HBM.out.size; simp; omega
              intro v8 w8 hown hgrow _
              have HM8 : Hid (MixL w2 w8 v8 (F ++ P.take (q + 1))) := by
                unfold Hid
                rw [HTK.out, ← List.append_assoc]
                exact MixL.grown (G := F ++ P.take q) (Z := [z]) (HBM.out.trans ((boxed w6 (.cells #[.slice aj z.length cj] 23)).mono HBM.out.size)) (by rw [HGN.out]; exact World.ownsRow.alloc HV6.out _) HRW.out hgrow (by rw [HGN.out]; exact hown) (fun i y hy => by
                  match i, hy with
                  | 0, hy => cases hy; exact ⟨_, rfl, HLR.out⟩
                  | i + 1, hy => simp at hy)
              clear hown hgrow hc6
              go_wp2
              go_roundw
              case rel => exact ⟨q + 1, by go_num, by omega, HG2, HM8⟩
              case measure => simp [intOf]; omega
          · have hqe : q = P.length := by omega
            have hall : AllGood F P := fun j hj => HG.out j (by omega)
            have HCV : Hid (ChkV F P (if P.getLast? = some [] then -1 else (P.length : Int))) := .inr ⟨hall, rfl⟩
            clear hall
            rcases (show P.length = 0 ∨ ∃ p, P.length = p + 1 by cases P.length with | zero => exact .inl rfl | succ p => exact .inr ⟨p, rfl⟩) with hpn | ⟨p, hpn⟩
            · have hP0 : P = [] := List.length_eq_zero_iff.1 hpn
              have HV0 : Hid (ChkV F P 0) := by have := HCV.out; unfold Hid; rw [hP0] at this ⊢; simpa using this
              have e1 : ((P.length : Int) == 0) = true := by rw [beq_iff_eq]; omega
              have e2 : (P.length : Int) = 0 := by omega
              clear hP0 hqe hpn
              go_wp2
              go_ret2
              exact ⟨HBr.out, _, 0, rfl, .inl ⟨HDZ.out, rfl, by simpa [e2] using HV0.out⟩⟩
            · obtain ⟨bb, off, aj, cj, z, he, hbs, HZ, hc, _⟩ := HPr.out.at (j := p) (by omega)
              subst he
              have hlast : P.getLast? = some z := by
                rw [List.getLast?_eq_getElem?, show P.length - 1 = p by omega]; exact HZ.out
              rw [hlast] at HCV
              have hw : IntKind.i64.wrap ((P.length : Int) - 1) = (p : Int) := by rw [IntWalk.i64_in _ (by omega)]; omega
              have hp0 : (0 : Int) ≤ (p : Int) := by omega
              have hpl' : (p : Int) < (P.length : Int) := by omega
              have hpln : p < P.length := by omega
              have e1 : ((P.length : Int) == 0) = false := by rw [beq_eq_false_iff_ne]; omega
              by_cases hz : z = []
              · subst hz
                have HV1 : Hid (ChkV F P (-1)) := by have := HCV.out; unfold Hid; simpa using this
                clear HCV hlast hqe hpn
                go_wp2
                go_ret2
                exact ⟨HBr.out, -1, 0, rfl, .inl ⟨HDZ.out, rfl, HV1.out⟩⟩
              · have HV1 : Hid (ChkV F P (P.length : Int)) := by have := HCV.out; rw [if_neg (by simpa using hz)] at this; exact this
                have hzl : z.length ≠ 0 := fun h => hz (List.length_eq_zero_iff.1 h)
                have e4 : (0 : Int) < (z.length : Int) := by omega
                clear HCV hlast hqe hpn hz
                go_wp2
                go_ret2
                exact ⟨HBr.out, (P.length : Int), 0, rfl, .inl ⟨HDZ.out, rfl, HV1.out⟩⟩
  · obtain ⟨q, hq⟩ : ∃ q, checkF n F = q := ⟨_, rfl⟩
    have hd : dv n F P = q := by rw [dv_bad hf, hq]
    rw [hq] at hf
    rw [hq]
    have e1 : (q != 0) = true := by simp [hf]
    have e2 : (q == 0) = false := by simp [hf]
    have HD := Lib.hid hd
    have HQ := Lib.hid hf
    clear hd hq hf
    go_wp2
    go_ret2
    exact ⟨HB1.out, 0, q, rfl, .inr ⟨by rw [HD.out]; exact HQ.out, HD.out.symm, rfl⟩⟩
end Go.Proofs.Ytbljkbdbiceokaa
