/-
  The reference's heap.
-/
import Derived.Test.YtfighepopmaimaaOrdM
namespace Go.Proofs.Ytfighepopmaimaa
open Go.RowKit Go.Lib
open Go.RowKit (Below)

structure RefR (p ab bb ac bc : Nat) (A : Hs) (w : World) : Prop where
  d1 : p ≠ ab
  d2 : p ≠ bb
  d3 : ab ≠ bb
  blk : Blk w p 66 [.slice (some ⟨ab, 0, none⟩) A.n ac, .slice (some ⟨bb, 0, none⟩) A.n bc]
  acts : Row w 3 1 ab A.n ac (numC A.act A.n)
  inns : Row w 4 1 bb A.n bc (boolC A.inn A.n)
  fit : A.Fit
theorem RefR.stays {p ab bb ac bc : Nat} {A : Hs} {w w' : World} (h : RefR p ab bb ac bc A w) (hb : ∀ g, g ∈ [p, ab, bb] → w'.heap[g]? = w.heap[g]?) : RefR p ab bb ac bc A w' :=
  ⟨h.d1, h.d2, h.d3, h.blk.of (hb _ (by simp)), h.acts.of (hb _ (by simp)), h.inns.of (hb _ (by simp)), h.fit⟩
theorem RefR.lt {p ab bb ac bc : Nat} {A : Hs} {w : World} (h : RefR p ab bb ac bc A w) : ∀ g, g ∈ [p, ab, bb] → g < w.heap.size := fun g hg => by
  simp only [List.mem_cons, List.not_mem_nil, or_false] at hg
  rcases hg with rfl | rfl | rfl
  · exact h.blk.lt
  · exact h.acts.lt
  · exact h.inns.lt
theorem RefR.below {p ab bb ac bc : Nat} {A : Hs} {w w' : World} (h : RefR p ab bb ac bc A w) (hb : Below w.heap.size w w') : RefR p ab bb ac bc A w' := h.stays fun g hg => hb.block g (h.lt g hg)
def RF (p : Nat) (A : Hs) : Ast := fun fs w => ∃ ab bb ac bc, fs = [p, ab, bb] ∧ RefR p ab bb ac bc A w
theorem RF.loc (p : Nat) (A : Hs) : Loc (RF p A) := ⟨fun fs w w' h hb => by
    obtain ⟨ab, bb, ac, bc, rfl, h1⟩ := h
    exact ⟨ab, bb, ac, bc, rfl, h1.stays hb⟩, fun fs w h => by
    obtain ⟨ab, bb, ac, bc, rfl, h1⟩ := h
    exact h1.lt⟩
section
variable {p ab bb ac bc : Nat} {A : Hs} {w : World}
theorem RefR.c0 (h : RefR p ab bb ac bc A w) : w.cell? ⟨p, 0, none⟩ = some (.slice (some ⟨ab, 0, none⟩) A.n ac) := h.blk.cell rfl
theorem RefR.c1 (h : RefR p ab bb ac bc A w) : w.cell? ⟨p, 1, none⟩ = some (.slice (some ⟨bb, 0, none⟩) A.n bc) := h.blk.cell rfl
theorem RefR.a (h : RefR p ab bb ac bc A w) {e : Nat} (he : e < A.n) : w.cell? ⟨ab, e, none⟩ = some (.int .i64 (A.act e)) := h.acts.cell (numC_at _ he)
theorem RefR.b (h : RefR p ab bb ac bc A w) {e : Nat} (he : e < A.n) : w.cell? ⟨bb, e, none⟩ = some (.bool (A.inn e)) := h.inns.cell (boolC_at _ he)
theorem RefR.setA (h : RefR p ab bb ac bc A w) (e : Nat) (x : Int) (hf : ({ A with act := upN A.act e x } : Hs).Fit) : RefR p ab bb ac bc { A with act := upN A.act e x } (w.setCell ⟨ab, e, none⟩ (.int .i64 x)) := by
  have hst : ∀ b, b ≠ ab → (w.setCell ⟨ab, e, none⟩ (.int .i64 x)).heap[b]? = w.heap[b]? := fun b hb => setCell_block w _ _ hb
  refine ⟨h.d1, h.d2, h.d3, h.blk.of (hst _ h.d1), ?_, h.inns.of (hst _ (Ne.symm h.d3)), hf⟩
  have := h.acts.set e (.int .i64 x); rw [numC_set] at this; exact this
theorem RefR.setB (h : RefR p ab bb ac bc A w) (e : Nat) (x : Bool) : RefR p ab bb ac bc { A with inn := upN A.inn e x } (w.setCell ⟨bb, e, none⟩ (.bool x)) := by
  have hst : ∀ b, b ≠ bb → (w.setCell ⟨bb, e, none⟩ (.bool x)).heap[b]? = w.heap[b]? := fun b hb => setCell_block w _ _ hb
  refine ⟨h.d1, h.d2, h.d3, h.blk.of (hst _ h.d2), h.acts.of (hst _ h.d3), ?_, h.fit⟩
  have := h.inns.set e (.bool x); rw [boolC_set] at this; exact this
/-- A step of the reference's heap. -/
def StepR (p : Nat) (A : Hs) (fs : List Nat) (w w' : World) : Prop := StepA (RF p A) fs w w'
theorem StepR.refl (h : RefR p ab bb ac bc A w) : StepR p A [p, ab, bb] w w := ⟨_, ⟨ab, bb, ac, bc, rfl, h⟩, Touch.refl _ _, fun _ hg => .inl hg⟩
theorem StepR.of_quiet {w' : World} (h : RefR p ab bb ac bc A w) (hq : QuietTo w w') : StepR p A [p, ab, bb] w w' := ⟨_, ⟨ab, bb, ac, bc, rfl, h.below (quietBelow hq _)⟩, Touch.quiet hq _, fun _ hg => .inl hg⟩

theorem StepA.quiet {P : Ast} {fs : List Nat} {w w1 w2 : World} (h : StepA P fs w w1) (hl : Loc P) (hq : QuietTo w1 w2) : StepA P fs w w2 := by
  obtain ⟨fs', h1, h2, h3⟩ := h
  exact ⟨fs', hl.stays _ _ _ h1 fun g hg => (quietBelow hq w1.heap.size).block g (hl.lt _ _ h1 g hg), h2.trans (Touch.quiet hq _), h3⟩
theorem boolC_congr {f g : Nat → Bool} {n : Nat} (h : ∀ e, e < n → f e = g e) : boolC f n = boolC g n := by
  unfold boolC
  exact List.map_congr_left fun j hj => by rw [h j (List.mem_range.1 hj)]
theorem refNew_bad {n : Int} (w : World) (hn : n < 0 ∨ 1048576 < n) : Calls Try.prog 13 #[.int .i64 n] w fun r w' => r = .returned (.tuple #[.pointer none, .int .i64 3]) ∧ w = w' := by
  rcases hn with hn | hn
  · go_enter Try.func13, Try.ntmps13
    go_wp2
    go_ret2
    exact ⟨rfl, rfl⟩
  · have h0 : ¬ n < 0 := by omega
    go_enter Try.func13, Try.ntmps13
    go_wp2
    go_ret2
    exact ⟨rfl, rfl⟩
theorem made_boolN (n : Nat) (w : World) (hn : n ≤ 1048576) : (Instr.makeSlice 47 (.int .i64 n) (.int .i64 n)).run Try.prog w = .ok (.slice (some ⟨w.heap.size, 0, none⟩) n n) (w.alloc (.cells (madeCells #[.bool false] n) 4)) := by
  obtain ⟨i0, hi, hz0, hz1, hz2⟩ := info_parts Try.infoBool
  have h := run_make (P := Try.prog) w 47 4 i0 (.bool false) Try.underlying47 hi hz0 .i64 .i64 n n (by omega) (by omega) (by rw [hz2]; omega) (by omega)
  rw [hz1] at h
  simp only [Int.toNat_natCast, Nat.mul_one] at h
  exact h
/-- The heap as it is made, but for what is in it. -/
def StartF (n B p : Nat) (W : World) : Prop := ∃ ab bb, RefR p ab bb n n ⟨n, fun _ => 0, fun e => decide (e < 0)⟩ W ∧ B ≤ p ∧ B ≤ ab ∧ B ≤ bb
theorem startF_of {n p ab bb : Nat} {wa W : World} (hn : n ≤ 1048576)
    (hg : At wa W p (.cells #[.slice (some ⟨ab, 0, none⟩) n n, .slice (some ⟨bb, 0, none⟩) n n] 66))
    (ha : At wa W ab (.cells (madeCells #[.int .i64 0] n) 3)) (hb : At wa W bb (.cells (madeCells #[.bool false] n) 4)) : StartF n wa.heap.size p W := by
  obtain ⟨gg, hg⟩ := hg
  obtain ⟨ga, ha⟩ := ha
  obtain ⟨gb, hb⟩ := hb
  have hm : n ≤ maxLen := by unfold maxLen; omega
  have ne : ∀ {b b' : Nat} {o o' : Obj}, W.heap[b]? = some o → W.heap[b']? = some o' → o ≠ o' → b ≠ b' := fun h1 h2 hne e => hne (by rw [e, h2] at h1; exact (Option.some.inj h1).symm)
  refine ⟨ab, bb, ⟨ne hg ha (by simp), ne hg hb (by simp), ne ha hb (by simp), hg, rowOf ha (Nat.le_refl _) hm (size_madeCells _ _) (by rw [numC_made, List.take_of_length_le (by rw [numC_len]; exact Nat.le_refl _)]), rowOf hb (Nat.le_refl _) hm (size_madeCells _ _) ?_, ⟨hn, fun _ _ => ⟨Int.le_refl 0, by show (0 : Int) ≤ _; decide⟩⟩⟩, gg, ga, gb⟩
  rw [boolC_made, List.take_of_length_le (by rw [boolC_len]; exact Nat.le_refl _)]
  exact boolC_congr fun e _ => by simp
set_option maxHeartbeats 2000000 in
theorem refNew_ok {n : Nat} (w : World) (hn : n ≤ 1048576) : Calls Try.prog 13 #[.int .i64 n] w fun r w' => ∃ p fs, r = .returned (.tuple #[.pointer (some ⟨p, 0, none⟩), .int .i64 0]) ∧ RF p (Hs.new n) fs w' ∧ Below w.heap.size w w' ∧ ∀ g, g ∈ fs → w.heap.size ≤ g := by
  have hn1 : ¬ 1048576 < (n : Int) := by omega
  have hn0 : ¬ (n : Int) < 0 := by omega
  have hn2 : (n : Int) ≤ 1048576 := by omega
  have hk1 := fun W => made_full n W hn
  have hk2 := fun W => made_boolN n W hn
  have HN := Lib.hid hn
  clear hn
  go_enter Try.func13, Try.ntmps13
  go_wp2
  go_cut [4] from 12 to 17 (fun s4 wc => ∃ p, s4 = .pointer (some ⟨p, 0, none⟩) ∧ Hid (StartF n w.heap.size p wc) ∧ Hid (Below w.heap.size w wc))
  case first =>
    go_region
    all_goals (go_step; go_step; go_meet; refine ⟨_, rfl, ?_, ch3B _ _ _ _⟩; first | (refine startF_of HN.out (ch30 _ _ _ _) ?_ ?_ <;> first | exact ch30 _ _ _ _ | exact ch31 _ _ _ _ | exact ch32 _ _ _ _) | (refine startF_of HN.out (ch31 _ _ _ _) ?_ ?_ <;> first | exact ch30 _ _ _ _ | exact ch31 _ _ _ _ | exact ch32 _ _ _ _) | (refine startF_of HN.out (ch32 _ _ _ _) ?_ ?_ <;> first | exact ch30 _ _ _ _ | exact ch31 _ _ _ _ | exact ch32 _ _ _ _))
  case rest =>
    obtain ⟨p, rfl, HST, HBL⟩ := hcut
    obtain ⟨ab, bb, hr, g1, g2, g3⟩ := HST.out
    have HR := Lib.hid hr
    have HG := Lib.hid (And.intro g1 (And.intro g2 g3))
    clear hr g1 g2 g3 HST
    go_wp2
    go_loopw [5] (fun t wr => ∃ k : Nat, t = .int .i64 k ∧ k ≤ n ∧ Hid (RefR p ab bb n n ⟨n, fun _ => 0, fun e => decide (e < k)⟩ wr) ∧ Hid (Below w.heap.size w wr)) (fun t _ => n - (intOf t).toNat)
    case atStart => exact ⟨0, rfl, Nat.zero_le _, HR, HBL⟩
    case round =>
      obtain ⟨k, rfl, hk, HR2, HB⟩ := hrel
      clear HR HBL
      by_cases hlt : k < n
      · have c1 := HR2.out.c1
        have b1 := HR2.out.b (e := k) hlt
        have f1 := HR2.out.inns.free k
        dsimp only at c1 b1 f1
        generalize decide (k < k) = z at b1
        have h1 := HR2.out.setB k true
        have he : (fun e : Nat => upN (fun e => decide (e < k)) k true e) = fun e => decide (e < k + 1) := by
          funext e
          unfold upN
          by_cases h2 : e = k
          · rw [if_pos h2, h2]; simp
          · rw [if_neg h2, decide_eq_decide]; omega
        have H1 : Hid (RefR p ab bb n n ⟨n, fun _ => 0, fun e => decide (e < k + 1)⟩ (wr.setCell ⟨bb, k, none⟩ (.bool true))) := by unfold Hid; rw [← he]; exact h1
        have HB1 := Lib.hid (HB.out.setCell (p := ⟨bb, k, none⟩) HG.out.2.2 (.bool true))
        clear h1 he
        go_wp2
        go_roundw
        case rel => exact ⟨k + 1, by go_num, by omega, H1, HB1⟩
        case measure => simp [intOf]; omega
      · obtain rfl : k = n := by omega
        have HF : Hid (RefR p ab bb k k (Hs.new k) wr) := by
          have h := HR2.out
          refine ⟨h.d1, h.d2, h.d3, h.blk, h.acts, ?_, h.fit⟩
          have h9 := h.inns
          dsimp only at h9
          rw [boolC_congr (g := fun _ => true) (fun e he => by simpa using he)] at h9
          exact h9
        clear hlt HR2
        go_wp2
        go_ret2
        refine ⟨p, [p, ab, bb], rfl, ⟨ab, bb, k, k, rfl, HF.out⟩, HB.out, fun g hg => ?_⟩
        obtain ⟨g1, g2, g3⟩ := HG.out
        simp only [List.mem_cons, List.not_mem_nil, or_false] at hg
        rcases hg with rfl | rfl | rfl
        · exact g1
        · exact g2
        · exact g3
theorem refLen_any (h : RefR p ab bb ac bc A w) : Calls Try.prog 23 #[.pointer (some ⟨p, 0, none⟩)] w fun r w' => r = .returned (.int .i64 A.lenN) ∧ w = w' := by
  have c1 := h.c1
  have H := Lib.hid h
  have hfew : (A.n : Int) ≤ 1048576 := by have := h.fit.1; omega
  clear h
  go_enter Try.func23, Try.ntmps23
  go_wp2
  go_loop [3, 4] (fun s t => ∃ k : Nat, t = .int .i64 k ∧ s = .int .i64 (A.cnt k : Nat) ∧ k ≤ A.n) (fun _ t => A.n - (intOf t).toNat)
  case atStart => exact ⟨0, rfl, rfl, Nat.zero_le _⟩
  case round =>
    obtain ⟨k, rfl, rfl, hk⟩ := hrel
    have hcn : ((A.cnt k : Nat) : Int) ≤ 1048576 := by have := A.cnt_le k; omega
    by_cases hlt : k < A.n
    · have b1 := H.out.b hlt
      have hs := A.cnt_succ k
      cases hi : A.inn k with
      | false =>
        rw [hi] at b1 hs
        have HS : Hid (A.cnt (k + 1) = A.cnt k) := Lib.hid (by simpa using hs)
        clear hs hi
        go_wp2
        go_round
        case rel => exact ⟨k + 1, by go_num, by rw [HS.out], by omega⟩
        case measure => simp [intOf]; omega
      | true =>
        rw [hi] at b1 hs
        have HS : Hid (A.cnt (k + 1) = A.cnt k + 1) := Lib.hid (by simpa using hs)
        clear hs hi
        go_wp2
        go_round
        case rel => exact ⟨k + 1, by go_num, by rw [HS.out]; go_num, by omega⟩
        case measure => simp [intOf]; omega
    · obtain rfl : k = A.n := by omega
      clear hlt
      go_wp2
      go_ret
      exact ⟨rfl, rfl⟩
theorem refHas_any (h : RefR p ab bb ac bc A w) (v : Int) : Calls Try.prog 21 #[.pointer (some ⟨p, 0, none⟩), .int .i64 v] w fun r w' => r = .returned (.bool (A.hasB v)) ∧ w = w' := by
  have c1 := h.c1
  have hfew : (A.n : Int) ≤ 1048576 := by have := h.fit.1; omega
  cases hv : A.okV v with
  | false =>
    have HL : Hid (A.hasB v = false) := by unfold Hid Hs.hasB; rw [hv]; rfl
    have hb := okV_bad hv
    by_cases h1 : v < 1
    · have h2 : ¬ 1 ≤ v := by omega
      clear hv h hb
      go_enter Try.func21, Try.ntmps21
      go_wp2
      go_ret
      exact ⟨ret_bool HL.out.symm, rfl⟩
    · have h2 : (1 : Int) ≤ v := by omega
      have h3 : ¬ v ≤ (A.n : Int) := by omega
      clear hv h hb h1
      go_enter Try.func21, Try.ntmps21
      go_wp2
      go_ret
      exact ⟨ret_bool HL.out.symm, rfl⟩
  | true =>
    obtain ⟨e, he, rfl⟩ := okV_good hv
    have HL : Hid (A.hasB ((e : Int) + 1) = A.inn e) := by unfold Hid Hs.hasB; rw [hv, natSub]; rfl
    have b1 := h.b he
    have h2 : (1 : Int) ≤ (e : Int) + 1 := by omega
    have h3 : (e : Int) + 1 ≤ (A.n : Int) := by omega
    have he1 : (e : Int) < (A.n : Int) := by omega
    have he0 : (0 : Int) ≤ (e : Int) := by omega
    generalize A.inn e = z at *
    clear hv h he
    go_enter Try.func21, Try.ntmps21
    go_wp2
    go_ret
    exact ⟨ret_bool HL.out.symm, rfl⟩
theorem refPush_any (h : RefR p ab bb ac bc A w) (v : Int) : Calls Try.prog 19 #[.pointer (some ⟨p, 0, none⟩), .int .i64 v] w fun r w' => r = .returned (.int .i64 (A.pushE v)) ∧ StepR p (A.pushA v) [p, ab, bb] w w' := by
  have c1 := h.c1
  have hfew : (A.n : Int) ≤ 1048576 := by have := h.fit.1; omega
  cases hv : A.okV v with
  | false =>
    have hE : A.pushE v = 3 := by unfold Hs.pushE; rw [hv]; rfl
    have hA : A.pushA v = A := by unfold Hs.pushA; rw [hv]; rfl
    rw [hE, hA]
    have HS := Lib.hid (StepR.refl h)
    have hb := okV_bad hv
    by_cases h1 : v < 1
    · clear hv h hb hE hA
      go_enter Try.func19, Try.ntmps19
      go_wp2
      go_ret
      exact ⟨rfl, HS.out⟩
    · have h3 : (A.n : Int) < v := by omega
      clear hv h hb hE hA
      go_enter Try.func19, Try.ntmps19
      go_wp2
      go_ret
      exact ⟨rfl, HS.out⟩
  | true =>
    obtain ⟨e, he, rfl⟩ := okV_good hv
    have hE : A.pushE ((e : Int) + 1) = 0 := by unfold Hs.pushE; rw [hv]; rfl
    have hA : A.pushA ((e : Int) + 1) = { A with inn := upN A.inn e true } := by unfold Hs.pushA; rw [hv, if_pos rfl, natSub]
    rw [hE, hA]
    have b1 := h.b he
    have f1 := h.inns.free e
    have HS : Hid (StepR p { A with inn := upN A.inn e true } [p, ab, bb] w (w.setCell ⟨bb, e, none⟩ (.bool true))) := ⟨[p, ab, bb], ⟨ab, bb, ac, bc, rfl, h.setB e true⟩, Touch.setCell _ (by simp), fun _ hg => .inl hg⟩
    have h1 : ¬ (e : Int) + 1 < 1 := by omega
    have h3 : ¬ (A.n : Int) < (e : Int) + 1 := by omega
    have he1 : (e : Int) < (A.n : Int) := by omega
    have he0 : (0 : Int) ≤ (e : Int) := by omega
    generalize A.inn e = z at b1
    clear hv h he hE hA
    go_enter Try.func19, Try.ntmps19
    go_wp2
    go_ret
    exact ⟨rfl, HS.out⟩
set_option maxHeartbeats 2000000 in
theorem refBump_any (h : RefR p ab bb ac bc A w) (v b : Int) : Calls Try.prog 15 #[.pointer (some ⟨p, 0, none⟩), .int .i64 v, .int .i64 b] w fun r w' => r = .returned (.int .i64 (A.bumpE v b)) ∧ StepR p (A.bumpA v b) [p, ab, bb] w w' := by
  have c1 := h.c1
  have hfew : (A.n : Int) ≤ 1048576 := by have := h.fit.1; omega
  cases hv : A.okV v with
  | false =>
    obtain ⟨hE, hA⟩ := A.bumpE_bad (v := v) (b := b) (.inl hv)
    rw [hE, hA]
    have HS := Lib.hid (StepR.refl h)
    have hb := okV_bad hv
    by_cases h1 : v < 1
    · clear hv h hb hE hA
      go_enter Try.func15, Try.ntmps15
      go_wp2
      go_ret
      exact ⟨rfl, HS.out⟩
    · have h3 : (A.n : Int) < v := by omega
      clear hv h hb hE hA
      go_enter Try.func15, Try.ntmps15
      go_wp2
      go_ret
      exact ⟨rfl, HS.out⟩
  | true =>
    by_cases hb1 : b < 0
    · obtain ⟨hE, hA⟩ := A.bumpE_bad (v := v) (b := b) (.inr (.inl hb1))
      rw [hE, hA]
      have HS := Lib.hid (StepR.refl h)
      obtain ⟨e, he, rfl⟩ := okV_good hv
      have h1 : ¬ (e : Int) + 1 < 1 := by omega
      have h3 : ¬ (A.n : Int) < (e : Int) + 1 := by omega
      clear hv h hE hA he
      go_enter Try.func15, Try.ntmps15
      go_wp2
      go_ret
      exact ⟨rfl, HS.out⟩
    by_cases hb2 : 1099511627776 < b
    · obtain ⟨hE, hA⟩ := A.bumpE_bad (v := v) (b := b) (.inr (.inr (.inl hb2)))
      rw [hE, hA]
      have HS := Lib.hid (StepR.refl h)
      obtain ⟨e, he, rfl⟩ := okV_good hv
      have h1 : ¬ (e : Int) + 1 < 1 := by omega
      have h3 : ¬ (A.n : Int) < (e : Int) + 1 := by omega
      clear hv h hE hA he
      go_enter Try.func15, Try.ntmps15
      go_wp2
      go_ret
      exact ⟨rfl, HS.out⟩
    obtain ⟨e, he, rfl⟩ := okV_good hv
    obtain ⟨ha0, ha1⟩ := h.fit.2 e he
    have hb0 : 0 ≤ b := by omega
    have hb3 : b ≤ 1099511627776 := by omega
    have h1 : ¬ (e : Int) + 1 < 1 := by omega
    have h3 : ¬ (A.n : Int) < (e : Int) + 1 := by omega
    have he1 : (e : Int) < (A.n : Int) := by omega
    have he0 : (0 : Int) ≤ (e : Int) := by omega
    have c0 := h.c0
    have a1 := h.a he
    have f1 := h.acts.free e
    by_cases hb4 : 1152921504606846976 < A.act e + b
    · obtain ⟨hE, hA⟩ := A.bumpE_bad (v := (e : Int) + 1) (b := b) (.inr (.inr (.inr (by rw [natSub]; exact hb4))))
      rw [hE, hA]
      have HS := Lib.hid (StepR.refl h)
      generalize A.act e = x at *
      clear hv h hE hA he
      go_enter Try.func15, Try.ntmps15
      go_wp2
      go_ret
      exact ⟨rfl, HS.out⟩
    · obtain ⟨hE, hA⟩ := A.bumpE_good he hb0 hb3 (by omega)
      rw [hE, hA]
      have hfit := h.fit.bump ((e : Int) + 1) b
      rw [hA] at hfit
      have HS : Hid (StepR p { A with act := upN A.act e (A.act e + b) } [p, ab, bb] w (w.setCell ⟨ab, e, none⟩ (.int .i64 (A.act e + b)))) := ⟨[p, ab, bb], ⟨ab, bb, ac, bc, rfl, h.setA e _ hfit⟩, Touch.setCell _ (by simp), fun _ hg => .inl hg⟩
      have H := Lib.hid h
      generalize A.act e = x at *
      have hx1 : x + b ≤ 1152921504606846976 := by omega
      have hx2 : 0 ≤ x + b := by omega
      have hx3 : IntKind.i64.wrap (x + b) = x + b := IntWalk.i64_in _ (by omega)
      have hz : (e : Int) + 1 - 1 = (e : Int) := by omega
      have hz2 : IntKind.i64.wrap ((e : Int) + 1 - 1) = (e : Int) := by rw [hz]; exact IntWalk.i64_in _ (by omega)
      clear hv h hE hA he hfit
      go_enter Try.func15, Try.ntmps15
      go_wp2
      go_region
      have HS2 := Lib.hid (StepA.quiet HS.out (RF.loc _ _) (w2 := (w.setCell ⟨ab, e, none⟩ (.int .i64 (x + b))).drew) ⟨1, rfl⟩)
      generalize (w.setCell ⟨ab, e, none⟩ (.int .i64 (x + b))).drew = w2 at *
      go_wp2
      go_ret
      exact ⟨rfl, HS2.out⟩
theorem ret_two {k : IntKind} {a b c d : Int} (h : a = c) (h2 : b = d) : Ending.returned (.tuple #[.int k a, .int k b]) = .returned (.tuple #[.int k c, .int k d]) := by rw [h, h2]
/-- The best so far, as the reference has it. -/
def bestI : Option Nat → Int | none => -1 | some j => (j : Int)
theorem bestN_step (act : Nat → Int) (inn : Nat → Bool) (k : Nat) : bestN act inn (k + 1) = match bestN act inn k with | none => if inn k then some k else none | some j => if inn k && decide (act j < act k) then some k else some j := rfl
set_option maxHeartbeats 4000000 in
theorem refPop_any (h : RefR p ab bb ac bc A w) : Calls Try.prog 17 #[.pointer (some ⟨p, 0, none⟩)] w fun r w' => r = .returned (.tuple #[.int .i64 A.popV, .int .i64 A.popE]) ∧ StepR p A.popA [p, ab, bb] w w' := by
  have c0 := h.c0
  have c1 := h.c1
  have hfew : (A.n : Int) ≤ 1048576 := by have := h.fit.1; omega
  have H := Lib.hid h
  clear h
  go_enter Try.func17, Try.ntmps17
  go_wp2
  go_loopw [4, 5] (fun s t wr => ∃ (k : Nat) (x : Int), t = .int .i64 k ∧ s = .int .i64 x ∧ k ≤ A.n ∧ Hid (x = bestI (bestN A.act A.inn k)) ∧ Hid (QuietTo w wr)) (fun _ t _ => A.n - (intOf t).toNat)
  case atStart => exact ⟨0, -1, rfl, rfl, Nat.zero_le _, Lib.hid rfl, Lib.hid ⟨0, rfl⟩⟩
  case round =>
    obtain ⟨k, x, rfl, rfl, hk, HX, HQ⟩ := hrel
    obtain ⟨q, rfl⟩ := HQ.out
    by_cases hlt : k < A.n
    · have b1 := H.out.b hlt
      have hst := bestN_step A.act A.inn k
      have hk1 : (k : Int) < (A.n : Int) := by omega
      have hk0 : (0 : Int) ≤ (k : Int) := by omega
      have HM : Hid (A.n - (k + 1) < A.n - k) := Lib.hid (by omega)
      cases hi : A.inn k with
      | false =>
        rw [hi] at b1 hst
        have HS : Hid (x = bestI (bestN A.act A.inn (k + 1))) := by
          unfold Hid; rw [HX.out, hst]; cases bestN A.act A.inn k <;> rfl
        clear hst hi HX HQ
        go_wp2
        go_quiet (fail)
        go_wp2
        go_roundw
        case rel => exact ⟨k + 1, x, by go_num, rfl, by omega, HS, Lib.hid ⟨_, rfl⟩⟩
        case measure => have := HM.out; simp [intOf]; omega
      | true =>
        rw [hi] at b1 hst
        cases hb : bestN A.act A.inn k with
        | none =>
          rw [hb] at hst
          have hx : x = -1 := by have := HX.out; rw [hb] at this; exact this
          subst hx
          have HS : Hid ((k : Int) = bestI (bestN A.act A.inn (k + 1))) := by unfold Hid; rw [hst]; rfl
          have hd : decide ((-1 : Int) < 0) = true := rfl
          clear hst hi HX HQ hb
          go_wp2
          go_quiet (fail)
          go_wp2
          go_roundw
          case rel => exact ⟨k + 1, k, by go_num, rfl, by omega, HS, Lib.hid ⟨_, rfl⟩⟩
          case measure => have := HM.out; simp [intOf]; omega
        | some j =>
          rw [hb] at hst
          have hx : x = (j : Int) := by have := HX.out; rw [hb] at this; exact this
          subst hx
          have hjk := (bestN_some hb).1
          have a1 := H.out.a (e := j) (by omega)
          have a2 := H.out.a (e := k) hlt
          have hj0 : (0 : Int) ≤ (j : Int) := by omega
          have hj1 : (j : Int) < (A.n : Int) := by omega
          have hd : decide ((j : Int) < 0) = false := decide_eq_false (by omega)
          by_cases hgt : A.act j < A.act k
          · have HS : Hid ((k : Int) = bestI (bestN A.act A.inn (k + 1))) := by unfold Hid; rw [hst]; simp [hgt, bestI]
            have hd2 : decide (A.act j < A.act k) = true := decide_eq_true hgt
            generalize A.act j = y at *
            generalize A.act k = z at *
            clear hst hi HX HQ hb hjk
            go_wp2
            go_quiet (fail)
            go_wp2
            go_roundw
            case rel => exact ⟨k + 1, k, by go_num, rfl, by omega, HS, Lib.hid ⟨_, rfl⟩⟩
            case measure => have := HM.out; simp [intOf]; omega
          · have HS : Hid ((j : Int) = bestI (bestN A.act A.inn (k + 1))) := by unfold Hid; rw [hst]; simp [hgt, bestI]
            have hd2 : decide (A.act j < A.act k) = false := decide_eq_false hgt
            generalize A.act j = y at *
            generalize A.act k = z at *
            clear hst hi HX HQ hb hjk hgt
            go_wp2
            go_quiet (fail)
            go_wp2
            go_roundw
            case rel => exact ⟨k + 1, j, by go_num, rfl, by omega, HS, Lib.hid ⟨_, rfl⟩⟩
            case measure => have := HM.out; simp [intOf]; omega
    · obtain rfl : k = A.n := by omega
      have HB : Hid (A.best = bestN A.act A.inn A.n) := Lib.hid rfl
      have HQ2 : Hid (QuietTo w (w.drewN q)) := Lib.hid ⟨q, rfl⟩
      cases hb : bestN A.act A.inn A.n with
      | none =>
        have hx : x = -1 := by have := HX.out; rw [hb] at this; exact this
        subst hx
        have hbe : A.best = none := hb
        have hV : A.popV = 0 := by unfold Hs.popV; rw [hbe]
        have hE : A.popE = 6 := by unfold Hs.popE; rw [hbe]
        have hA : A.popA = A := by unfold Hs.popA; rw [hbe]
        have HV := Lib.hid hV
        have HE := Lib.hid hE
        have HA := Lib.hid hA
        have HS := Lib.hid (StepR.of_quiet H.out HQ2.out)
        clear hb hV hE hA hlt HX HQ hbe
        go_wp2
        go_ret2
        exact ⟨ret_two HV.out.symm HE.out.symm, by rw [HA.out]; exact HS.out⟩
      | some j =>
        have hx : x = (j : Int) := by have := HX.out; rw [hb] at this; exact this
        subst hx
        have hbe : A.best = some j := hb
        have hV : A.popV = (j : Int) + 1 := by unfold Hs.popV; rw [hbe]
        have hE : A.popE = 0 := by unfold Hs.popE; rw [hbe]
        have hA : A.popA = { A with inn := upN A.inn j false } := Hs.popA_inn hbe
        have HV := Lib.hid hV
        have HE := Lib.hid hE
        have HA := Lib.hid hA
        have hjn := (bestN_some hb).1
        have hj0 : (0 : Int) ≤ (j : Int) := by omega
        have hj1 : (j : Int) < (A.n : Int) := by omega
        have hj2 : ¬ (j : Int) < 0 := by omega
        have b1 := H.out.b hjn
        have f1 := H.out.inns.free j
        have h9 := (H.out.below (quietBelow HQ2.out _)).setB j false
        have HS : Hid (StepR p { A with inn := upN A.inn j false } [p, ab, bb] w ((w.drewN q).setCell ⟨bb, j, none⟩ (.bool false))) := ⟨[p, ab, bb], ⟨ab, bb, ac, bc, rfl, h9⟩, (Touch.quiet HQ2.out _).trans (Touch.setCell _ (by simp)), fun _ hg => .inl hg⟩
        generalize A.inn j = z at b1
        clear hb hV hE hA hlt HX HQ hbe hjn h9
        go_wp2
        go_ret2
        exact ⟨ret_two HV.out.symm HE.out.symm, by rw [HA.out]; exact HS.out⟩
end
end Go.Proofs.Ytfighepopmaimaa
