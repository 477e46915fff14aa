/-
  rise, sink.
-/
import Derived.Test.YtfighepopmaimaaOrdC
namespace Go.Proofs.Ytfighepopmaimaa
open Go.RowKit Go.Lib
open Go.RowKit (Below)

/-- What a queue is during its moves. -/
structure Mid (T : TypeId) (m : Mq) (Q0 Q : Qs) (w0 w : World) : Prop where
  q : QR T m Q w
  ok : Q.Ok
  same : Qs.Same Q0 Q
  touch : Touch m.foot w0 w
theorem Mid.below {T : TypeId} {m : Mq} {Q0 Q : Qs} {w0 w w' : World} (h : Mid T m Q0 Q w0 w) (hb : Below w.heap.size w w') : Mid T m Q0 Q w0 w' := ⟨h.q.below hb, h.ok, h.same, h.touch.trans (Touch.of_below hb _)⟩
theorem Mid.swap {T : TypeId} {m : Mq} {Q0 Q : Qs} {w0 w w' : World} (h : Mid T m Q0 Q w0 w) {p o : Nat} (hp : p < Q.tree.length) (ho : o < Q.tree.length) (hq : QR T m (Q.swap p o) w') (ht : Touch m.foot w w') : Mid T m Q0 (Q.swap p o) w0 w' :=
  ⟨hq, h.ok.swap hp ho, h.same.swap hp ho, h.touch.trans ht⟩
/-- What is behind them. -/
def DoneQ (T : TypeId) (m : Mq) (Q0 : Qs) (w0 : World) (w : World) : Prop := ∃ Q, Mid T m Q0 Q w0 w ∧ Q.Heap
def Done (T : TypeId) (m : Mq) (Q0 : Qs) (w0 : World) (x : Ending) (w : World) : Prop := x = .returned (.tuple #[]) ∧ DoneQ T m Q0 w0 w

section
variable {T : TypeId} {m : Mq} {Q : Qs} {w : World}
set_option maxHeartbeats 1000000 in
theorem rise_any (h : QR T m Q w) (ho : Q.Ok) {p : Nat} (hu : Q.HeapUp p) (hp : p < Q.tree.length) : Calls Try.prog 39 #[.pointer (some ⟨m.gb, 0, none⟩), .int .i64 (p : Int)] w (Done T m Q w) := by
  have H0 : Hid (Mid T m Q Q w w) := ⟨h, ho, Qs.Same.refl Q, Touch.refl _ _⟩
  have HU := Lib.hid hu
  have HL := Lib.hid hp
  clear h ho hu hp
  go_enter Try.func39, Try.ntmps39
  go_wp2
  go_loopw [1] (fun t wr => ∃ k : Nat, t = .int .i64 k ∧ Hid (∃ Q', Mid T m Q Q' w wr ∧ Q'.HeapUp k ∧ k < Q'.tree.length)) (fun t _ => (intOf t).toNat)
  case atStart => exact ⟨p, rfl, Q, H0, HU.out, HL.out⟩
  case round =>
    obtain ⟨k, rfl, HQ⟩ := hrel
    obtain ⟨Q', hm, hu, hk⟩ := HQ.out
    have hlen := hm.ok.len
    have hfew := hm.q.few
    by_cases h0 : 0 < k
    · obtain ⟨o, he⟩ : ∃ o, (k - 1) / 2 = o := ⟨_, rfl⟩
      have e1 : ((k : Int) - 1) / 2 = (o : Int) := by omega
      have hok : o < Q'.tree.length := by omega
      have hk1 : (k : Int) ≤ 1048576 := by omega
      have hk0 : (1 : Int) ≤ (k : Int) := by omega
      have hdec : o < k := by omega
      have HM := Lib.hid hm
      have HD := Lib.hid hdec
      cases hb : bef Q'.act (Q'.at_ k) (Q'.at_ o) with
      | false =>
        have HF : Hid Q'.Heap := hu.done (.inr (by rw [he]; exact hb))
        have K := Lib.hid (precedes_is hm.q hm.ok hk hok hb)
        clear hm hu hk hlen hfew he hok hb hdec HQ
        go_wp2_with (go_at_call 44; refine K.out.mono ?_; rintro e w1 ⟨rfl, hb1⟩)
        have HB := Lib.hid hb1
        clear hb1
        go_end0
        exact ⟨rfl, Q', HM.out.below HB.out, HF.out⟩
      | true =>
        have HS := hu.step hk h0 (by rw [he]; exact hb)
        rw [he] at HS
        have HS := Lib.hid HS
        have HK := Lib.hid hk
        have HO := Lib.hid hok
        have K := Lib.hid (precedes_is hm.q hm.ok hk hok hb)
        clear hm hu hk hlen hfew he hok hb hdec HQ
        go_wp2_with (go_at_call 44; refine K.out.mono ?_; rintro e w1 ⟨rfl, hb1⟩)
        have HM1 := Lib.hid (HM.out.below hb1)
        clear hb1
        have K2 := Lib.hid (swap_is HM1.out.q HM1.out.ok HK.out HO.out)
        go_wp2_with (go_at_call 40; refine K2.out.mono ?_; rintro e w2 ⟨rfl, hq, ht, _⟩)
        have HM2 := Lib.hid (HM1.out.swap HK.out HO.out hq ht)
        go_wp2
        go_roundw
        case rel => exact ⟨o, rfl, _, HM2.out, HS.out, by rw [Qs.swap_len]; exact HO.out⟩
        case measure => have := HD.out; simp [intOf]; omega
    · obtain rfl : k = 0 := by omega
      have HF : Hid Q'.Heap := hu.done (.inl rfl)
      have HM := Lib.hid hm
      clear hm hu hk hlen hfew h0 HQ
      go_wp2
      go_end0
      exact ⟨rfl, Q', HM.out, HF.out⟩
set_option maxHeartbeats 2000000 in
theorem sink_any (h : QR T m Q w) (ho : Q.Ok) {p : Nat} (hd : Q.HeapDn p) (hp : p < Q.tree.length ∨ Q.tree.length = 0 ∧ p = 0) : Calls Try.prog 41 #[.pointer (some ⟨m.gb, 0, none⟩), .int .i64 (p : Int)] w (Done T m Q w) := by
  have H0 : Hid (Mid T m Q Q w w) := ⟨h, ho, Qs.Same.refl Q, Touch.refl _ _⟩
  have HD := Lib.hid hd
  have HL := Lib.hid hp
  clear h ho hd hp
  go_enter Try.func41, Try.ntmps41
  go_wp2
  go_loopw [1] (fun t wr => ∃ k : Nat, t = .int .i64 k ∧ Hid (∃ Q', Mid T m Q Q' w wr ∧ Q'.HeapDn k ∧ (k < Q'.tree.length ∨ Q'.tree.length = 0 ∧ k = 0))) (fun t _ => Q.tree.length - (intOf t).toNat)
  case atStart => exact ⟨p, rfl, Q, H0, HD.out, HL.out⟩
  case round =>
    obtain ⟨k, rfl, HQ⟩ := hrel
    obtain ⟨wo, rfl⟩ : ∃ wo : World, wo = wr := ⟨_, rfl⟩
    obtain ⟨Q', hm, hd, hk⟩ := HQ.out
    have hk1 : (k : Int) ≤ 1048576 := by have := hm.ok.len; have := hm.q.few; omega
    have hk0 : (0 : Int) ≤ (k : Int) := by omega
    have HM := Lib.hid hm
    have HD := Lib.hid hd
    have HK := Lib.hid hk
    clear hm hd hk HQ
    go_wp2
    go_loopw [4, 5] (fun ft ct wi => ∃ f c : Nat, ft = .int .i64 f ∧ ct = .int .i64 c ∧ Hid (Mid T m Q Q' w wi) ∧ Hid (Qs.Kid Q' k c f)) (fun _ ct _ => 2 * k + 3 - (intOf ct).toNat)
    case atStart => exact ⟨k, 2 * k + 1, rfl, by go_num, HM, Qs.Kid.start Q' k⟩
    case round =>
      obtain ⟨f, c, rfl, rfl, HMi, HKi⟩ := hrel
      have hki := HKi.out
      have g1 : (c : Int) ≤ 2 * (k : Int) + 3 := by have := hki.high; omega
      have g0 : (1 : Int) ≤ (c : Int) := by have := hki.low; omega
      by_cases hc : c ≤ 2 * k + 2 ∧ c < Q'.tree.length
      · obtain ⟨hc1, hc2⟩ := hc
        have hfl : f < Q'.tree.length := by
          have := hki.low
          rcases hki.fst with h1 | ⟨h1, _⟩ <;> omega
        have t1 : decide ((c : Int) ≤ 2 * (k : Int) + 2) = true := by simp; omega
        have t2 : decide (c < Q'.tree.length) = true := by simpa using hc2
        have c2 := HMi.out.q.c2
        have HC := Lib.hid hc1
        have HCL := Lib.hid hc2
        cases hb : bef Q'.act (Q'.at_ c) (Q'.at_ f) with
        | false =>
          have HN := Lib.hid (hki.no hc1 hb)
          have K := Lib.hid (precedes_is HMi.out.q HMi.out.ok hc2 hfl hb)
          clear hki hfl hb hc1 hc2 HKi HK HM
          go_wp2_with (go_at_call 44; refine K.out.mono ?_; rintro e w1 ⟨rfl, hb1⟩)
          have HM1 := Lib.hid (HMi.out.below hb1)
          clear hb1
          go_roundw
          case rel => exact ⟨f, c + 1, rfl, by go_num, HM1.out, HN.out⟩
          case measure => have := HC.out; simp [intOf]; omega
        | true =>
          have HN := Lib.hid (hki.yes hc1 hc2 hb)
          have K := Lib.hid (precedes_is HMi.out.q HMi.out.ok hc2 hfl hb)
          clear hki hfl hb hc1 hc2 HKi HK HM
          go_wp2_with (go_at_call 44; refine K.out.mono ?_; rintro e w1 ⟨rfl, hb1⟩)
          have HM1 := Lib.hid (HMi.out.below hb1)
          clear hb1
          go_roundw
          case rel => exact ⟨c, c + 1, rfl, by go_num, HM1.out, HN.out⟩
          case measure => have := HC.out; simp [intOf]; omega
      · have hend := hki.done (by omega : ¬ c ≤ 2 * k + 2 ∨ ¬ c < Q'.tree.length)
        have HE := Lib.hid hend
        have c2 := HMi.out.q.c2
        have hcc : decide ((c : Int) ≤ 2 * (k : Int) + 2) = true ∧ decide (c < Q'.tree.length) = false ∨ decide ((c : Int) ≤ 2 * (k : Int) + 2) = false := by simp; omega
        clear hend hc
        by_cases hfk : f = k
        · subst hfk
          have HF : Hid Q'.Heap := HD.out.done HE.out
          have tt : ((f : Int) == (f : Int)) = true := by simp
          clear hki HKi HK HM
          rcases hcc with ⟨t1, t2⟩ | t1
          all_goals
            go_wp2
            go_end0
            exact ⟨rfl, Q', HMi.out, HF.out⟩
        · have tt : ((f : Int) == (k : Int)) = false := by simp; omega
          rcases hki.fst with h1 | ⟨hfl, hf0, hfp, hfb⟩
          · exact absurd h1 hfk
          have hkl : k < Q'.tree.length := by omega
          have HS := Lib.hid (HD.out.step hfl hf0 hfp hfb HE.out)
          have HFL := Lib.hid hfl
          have HKL := Lib.hid hkl
          have HLT : Hid (k < f) := by unfold Hid; omega
          have K2 := Lib.hid (swap_is HMi.out.q HMi.out.ok hkl hfl)
          have HLQ : Hid (Q'.tree.length = Q.tree.length) := HMi.out.same.len
          clear hki HKi HK HM hfk hfl hf0 hfp hfb hkl
          rcases hcc with ⟨t1, t2⟩ | t1
          all_goals
            go_wp2_with (go_at_call 40; refine K2.out.mono ?_; rintro e w2 ⟨rfl, hq, ht, _⟩)
            have HM2 := Lib.hid (HMi.out.swap HKL.out HFL.out hq ht)
            go_roundw
            case rel => exact ⟨f, rfl, _, HM2.out, HS.out, .inl (by rw [Qs.swap_len]; exact HFL.out)⟩
            case measure => have := HLT.out; have := HFL.out; have := HLQ.out; simp [intOf]; omega
end
end Go.Proofs.Ytfighepopmaimaa
