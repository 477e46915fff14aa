/-
  newQueue, New.
-/
import Derived.Test.YtfighepopmaimaaOrdE
import Derived.Deep.CutRange
import Derived.Laws.EntriesVeiled
import Derived.WalkLawsBesides
namespace Go.Proofs.Ytfighepopmaimaa
open Go.RowKit Go.Lib
open Go.RowKit (Below)

theorem Try.infoKey : (Try.prog.info? 57).map (fun i => (i.zero, i.size, i.bytes)) = some (some (.agg #[.int .i64 0, .int .i64 0]), 2, 16) := by kernel_rfl
theorem made_full (n : Nat) : ∀ w : World, n ≤ 1048576 → (Instr.makeSlice 45 (.int .i64 n) (.int .i64 n)).run Try.prog w = .ok (.slice (some ⟨w.heap.size, 0, none⟩) n n) (w.alloc (.cells (madeCells #[.int .i64 0] n) 3)) := by
  intro w hn
  obtain ⟨i0, hi, hz0, hz1, hz2⟩ := info_parts Try.infoInt
  have h := run_make (P := Try.prog) w 45 3 i0 (.int .i64 0) Try.underlying45 hi hz0 .i64 .i64 n n (by omega) (by omega) (by rw [hz2]; omega) (by omega)
  rw [hz1] at h
  simp only [Int.toNat_natCast, Nat.mul_one] at h
  exact h
theorem made_void (n : Nat) : ∀ w : World, n ≤ 1048576 → (Instr.makeSlice 45 (.int .i64 0) (.int .i64 n)).run Try.prog w = .ok (.slice (some ⟨w.heap.size, 0, none⟩) 0 n) (w.alloc (.cells (madeCells #[.int .i64 0] n) 3)) := by
  intro w hn
  obtain ⟨i0, hi, hz0, hz1, hz2⟩ := info_parts Try.infoInt
  have h := run_make (P := Try.prog) w 45 3 i0 (.int .i64 0) Try.underlying45 hi hz0 .i64 .i64 0 n (by omega) (by omega) (by rw [hz2]; omega) (by omega)
  rw [hz1] at h
  simp only [Int.toNat_natCast, Nat.mul_one] at h
  exact h
theorem belowAlloc {a w : World} (h : Below a.heap.size a w) (o : Obj) : Below a.heap.size a (w.alloc o) := h.alloc h.size o
theorem chOld {W : World} {b : Nat} {x : Obj} (o : Obj) (h : W.heap[b]? = some x) : (W.alloc o).heap[b]? = some x := (Below.heap_alloc W o b (Array.getElem?_eq_some_iff.1 h).1).trans h
theorem chNew {W : World} {b : Nat} {o : Obj} (hb : W.heap.size = b) : (W.alloc o).heap[b]? = some o := by subst hb; exact heap_alloc_new _ _
/-- A block that is new. -/
def At (wa W : World) (b : Nat) (o : Obj) : Prop := wa.heap.size ≤ b ∧ W.heap[b]? = some o
section
variable (wa : World) (o1 o2 o3 : Obj)
abbrev Ch3 : World := (((wa.alloc o1).alloc o2).alloc o3).drew
theorem ch30 : At wa (Ch3 wa o1 o2 o3) (wa.heap.size) o1 := ⟨by omega, chOld _ (chOld _ (chNew (by simp)))⟩
theorem ch31 : At wa (Ch3 wa o1 o2 o3) (wa.heap.size + 1) o2 := ⟨by omega, chOld _ (chNew (by simp))⟩
theorem ch32 : At wa (Ch3 wa o1 o2 o3) (wa.heap.size + 1 + 1) o3 := ⟨by omega, chNew (by simp)⟩
theorem ch3B : Below wa.heap.size wa (Ch3 wa o1 o2 o3) := (belowAlloc (belowAlloc (belowAlloc (Below.refl _ _) _) _) _).drew
end
theorem numC_made (n : Nat) : (madeCells #[.int .i64 0] n).toList = numC (fun _ => 0) n := by
  have h := toList_madeCells_one (Value.int .i64 0) n
  rw [h]; unfold numC
  refine List.ext_getElem? fun i => ?_
  rw [List.getElem?_replicate, List.getElem?_map]
  by_cases hi : i < n
  · rw [if_pos hi, List.getElem?_range hi]; rfl
  · rw [if_neg hi, List.getElem?_eq_none (by simp; omega)]; rfl
theorem rowOf {w : World} {e : TypeId} {g n c : Nat} {cs : List Value} {xs : Array Value} (h : w.heap[g]? = some (.cells xs e (0, 0))) (hn : n ≤ c) (hc : c ≤ maxLen) (hs : xs.size = c) (ht : xs.toList.take n = cs) : Row w e 1 g n c cs :=
  ⟨by rw [← ht, List.length_take, Array.length_toList, hs]; omega, .inr ⟨g, c, xs, rfl, Nat.zero_le _, h, hn, hc, by omega, by rw [Nat.mul_one]; exact ht⟩⟩

/-- The queue as it is made, but for its places. -/
def StartQ (n kb kc B gb : Nat) (W : World) : Prop := ∃ tb pb, QR 60 ⟨gb, kb, tb, pb, kc, n, n⟩ ⟨n, fun _ => 0, [], fun _ => 0⟩ W ∧ B ≤ gb ∧ B ≤ tb ∧ B ≤ pb
theorem startQ_of {n kb kc gb tb pb : Nat} {wa W : World} (hn : n ≤ 1048576) (hk : Row wa 57 2 kb n kc (keyC (fun _ => 0) (fun e => (e : Int) + 1) n)) (hb : Below wa.heap.size wa W)
    (hg : At wa W gb (.cells #[.func (.func 30) #[] #[], .slice (some ⟨kb, 0, none⟩) n kc, .slice (some ⟨tb, 0, none⟩) 0 n, .slice (some ⟨pb, 0, none⟩) n n] 60))
    (ht : At wa W tb (.cells (madeCells #[.int .i64 0] n) 3)) (hp : At wa W pb (.cells (madeCells #[.int .i64 0] n) 3)) (hne : tb ≠ pb) : StartQ n kb kc wa.heap.size gb W := by
  obtain ⟨gt, ht⟩ := ht
  obtain ⟨gp, hp⟩ := hp
  obtain ⟨gg, hg⟩ := hg
  have hkl := hk.lt
  have hm : n ≤ maxLen := by unfold maxLen; omega
  have ne : ∀ {b b' : Nat} {o o' : Obj}, W.heap[b]? = some o → W.heap[b']? = some o' → o ≠ o' → b ≠ b' := fun h1 h2 hne e => hne (by rw [e, h2] at h1; exact (Option.some.inj h1).symm)
  have n1 : gb ≠ tb := ne hg ht (by simp)
  have n2 : gb ≠ pb := ne hg hp (by simp)
  refine ⟨tb, pb, ⟨?_, n1, n2, ?_, ?_, hne, hn, hg, hk.of (hb.block _ hkl), ?_, ?_⟩, gg, gt, gp⟩
  · show gb ≠ kb; omega
  · show kb ≠ tb; omega
  · show kb ≠ pb; omega
  · exact rowOf ht (Nat.zero_le _) hm (size_madeCells _ _) (by simp [treeC])
  · exact rowOf hp (Nat.le_refl _) hm (size_madeCells _ _) (by rw [numC_made, List.take_of_length_le (by rw [numC_len]; exact Nat.le_refl _)])

/-- The queue when the first k are in it. -/
def Filled (n kb gb k : Nat) (wa : World) (W : World) : Prop := ∃ m Q, Qu 60 m Q W ∧ m.gb = gb ∧ Q.n = n ∧ Q.act = (fun _ => 0) ∧ (∀ e, e ∈ Q.tree ↔ e < k) ∧ Touch [kb] wa W ∧ ∀ g, g ∈ m.foot → g = kb ∨ wa.heap.size ≤ g
theorem Filled.more {n kb gb k : Nat} {wa wr : World} (h : Filled n kb gb k wa wr) (hk : k < n) :
    Calls Try.prog 36 #[.pointer (some ⟨gb, 0, none⟩), .int .i64 (k : Int)] wr fun r w' => r = .returned (.tuple #[]) ∧ Filled n kb gb (k + 1) wa w' := by
  obtain ⟨m, Q, hq, rfl, hn, ha, hm, ht, hf⟩ := h
  refine (push_out hq.q hq.ok hq.heap (e := k) (by omega) (fun h => by have := (hm k).1 h; omega)).mono ?_
  rintro r w' ⟨hr, m', Q', hq', hn', ha', hm', hg', ht', hf'⟩
  refine ⟨hr, m', Q', hq', hg', hn'.trans hn, ha'.trans ha, fun e => ?_, ht.then_ (fun g hg => ?_) ht', fun g hg => ?_⟩
  · refine (hm' e).trans ?_
    show e ∈ Q.tree ∨ e = k ↔ _
    rw [hm]; omega
  · rcases hf g hg with h1 | h1
    · left; simp [h1]
    · exact .inr h1
  · rcases hf' g hg with h1 | h1
    · exact hf g h1
    · have := ht.size; right; omega

/-- The places of the first k are those of what is not there. -/
def goneTo (k : Nat) : Nat → Int := fun e => if e < k then -1 else 0
theorem goneTo_succ (k : Nat) : upN (goneTo k) k (-1) = goneTo (k + 1) := by
  funext e
  unfold upN goneTo
  by_cases h1 : e = k
  · rw [if_pos h1, if_pos (by omega)]
  · rw [if_neg h1]
    by_cases h2 : e < k
    · rw [if_pos h2, if_pos (by omega)]
    · rw [if_neg h2, if_neg (by omega)]

set_option maxRecDepth 100000 in
set_option maxHeartbeats 4000000 in
theorem newQueue_any {n kb kc : Nat} {w : World} (hn : n ≤ 1048576) (hk : Row w 57 2 kb n kc (keyC (fun _ => 0) (fun e => (e : Int) + 1) n)) :
    Calls Try.prog 29 #[.slice (some ⟨kb, 0, none⟩) n kc, .func (.func 30) #[] #[]] w fun r w' =>
      ∃ m Q, r = .returned (.agg (qCells m Q).toArray) ∧ Qu 60 m Q w' ∧ Q.n = n ∧ Q.act = (fun _ => 0) ∧ (∀ e, e ∈ Q.tree ↔ e < n) ∧ Touch [kb] w w' ∧ ∀ g, g ∈ m.foot → g = kb ∨ w.heap.size ≤ g := by
  have hn1 : (n : Int) ≤ 1048576 := by omega
  have hn0 : (0 : Int) ≤ (n : Int) := by omega
  have HK := Lib.hid hk
  have HN := Lib.hid hn
  have hk1 := fun W => made_full n W hn
  have hk2 := fun W => made_void n W hn
  clear hk hn
  go_enter Try.func29, Try.ntmps29
  go_wp2
  have hb0 := boxed w (.cells #[.nilFunc, .slice none 0 0, .slice none 0 0, .slice none 0 0] 60)
  have hr0 : Blk (w.alloc (.cells #[.nilFunc, .slice none 0 0, .slice none 0 0, .slice none 0 0] 60)) w.heap.size 60 [.nilFunc, .slice none 0 0, .slice none 0 0, .slice none 0 0] := Blk.new _ _ _
  have hs0 : (w.alloc (.cells #[.nilFunc, .slice none 0 0, .slice none 0 0, .slice none 0 0] 60)).heap.size = w.heap.size + 1 := by simp
  generalize w.alloc (.cells #[.nilFunc, .slice none 0 0, .slice none 0 0, .slice none 0 0] 60) = wa at *
  have HB0 := Lib.hid hb0
  have HR0 := Lib.hid hr0
  have HS0 := Lib.hid hs0
  have HKA := Lib.hid (HK.out.of (hb0.block _ HK.out.lt))
  clear hb0 hr0 hs0
  go_cut [5] from 8 to 16 (fun s5 wc => ∃ gb, s5 = .pointer (some ⟨gb, 0, none⟩) ∧ Hid (StartQ n kb kc wa.heap.size gb wc) ∧ Hid (Below wa.heap.size wa wc))
  case first =>
    go_region
    all_goals (go_step; go_step; go_meet; refine ⟨_, rfl, ?_, ch3B _ _ _ _⟩; first | (refine startQ_of HN.out HKA.out (ch3B _ _ _ _) (ch30 _ _ _ _) ?_ ?_ ?_ <;> first | exact ch30 _ _ _ _ | exact ch31 _ _ _ _ | exact ch32 _ _ _ _ | omega) | (refine startQ_of HN.out HKA.out (ch3B _ _ _ _) (ch31 _ _ _ _) ?_ ?_ ?_ <;> first | exact ch30 _ _ _ _ | exact ch31 _ _ _ _ | exact ch32 _ _ _ _ | omega) | (refine startQ_of HN.out HKA.out (ch3B _ _ _ _) (ch32 _ _ _ _) ?_ ?_ ?_ <;> first | exact ch30 _ _ _ _ | exact ch31 _ _ _ _ | exact ch32 _ _ _ _ | omega))
  case rest =>
    obtain ⟨gb, rfl, HST, HBL⟩ := hcut
    obtain ⟨tb, pb, hq, g1, g2, g3⟩ := HST.out
    have HL0 : Hid (∃ Q', Q' = (⟨n, fun _ => 0, [], goneTo 0⟩ : Qs) ∧ QR 60 ⟨gb, kb, tb, pb, kc, n, n⟩ Q' wc) := by
      refine ⟨_, rfl, ?_⟩
      have h0 : goneTo 0 = fun _ => 0 := by funext e; unfold goneTo; rw [if_neg (by omega)]
      rw [h0]; exact hq
    have HG := Lib.hid (And.intro g1 (And.intro g2 g3))
    clear hq g1 g2 g3 HST
    go_wp2
    go_loopw [19] (fun t wr => ∃ k : Nat, t = .int .i64 k ∧ k ≤ n ∧ Hid (QR 60 ⟨gb, kb, tb, pb, kc, n, n⟩ ⟨n, fun _ => 0, [], goneTo k⟩ wr) ∧ Hid (Below wa.heap.size wa wr)) (fun t _ => n - (intOf t).toNat)
    case atStart => obtain ⟨Q', rfl, hq⟩ := HL0.out; exact ⟨0, rfl, Nat.zero_le _, hq, HBL⟩
    case round =>
      obtain ⟨k, rfl, hk, HQ, HB⟩ := hrel
      by_cases hlt : k < n
      · have c3 := HQ.out.c3
        have pa := HQ.out.pa (e := k) hlt
        have fa := HQ.out.pls.free k
        dsimp only at c3 pa fa
        generalize goneTo k k = z at pa
        have h1 := HQ.out.setPl k (-1)
        dsimp only at h1
        rw [goneTo_succ] at h1
        have H1 := Lib.hid h1
        have HB1 := Lib.hid (HB.out.setCell (p := ⟨pb, k, none⟩) HG.out.2.2 (.int .i64 (-1)))
        clear h1
        go_wp2
        go_roundw
        case rel => exact ⟨k + 1, by go_num, by omega, H1, HB1⟩
        case measure => simp [intOf]; omega
      · obtain rfl : k = n := by omega
        have HF0 : Hid (Filled k kb gb 0 wa wr) := by
          refine ⟨_, _, ⟨HQ.out, ⟨fun i hi => absurd hi (Nat.not_lt_zero _), fun i hi => absurd hi (Nat.not_lt_zero _), fun e he _ => ?_⟩, fun i _ hi => absurd hi (Nat.not_lt_zero _)⟩, rfl, rfl, rfl, fun e => ⟨(fun h => by cases h), fun h => absurd h (Nat.not_lt_zero _)⟩, Touch.of_below HB.out _, fun g hg => ?_⟩
          · show goneTo k e = -1; unfold goneTo; rw [if_pos he]
          · simp only [Mq.foot, List.mem_cons, List.not_mem_nil, or_false] at hg
            obtain ⟨g1, g2, g3⟩ := HG.out
            rcases hg with h1 | h1 | h1 | h1
            · right; rw [h1]; exact g1
            · left; exact h1
            · right; rw [h1]; exact g2
            · right; rw [h1]; exact g3
        clear hlt HQ HB HL0
        go_wp2
        go_loopw [29] (fun t wi => ∃ j : Nat, t = .int .i64 j ∧ j ≤ k ∧ Hid (Filled k kb gb j wa wi)) (fun t _ => k - (intOf t).toNat)
        case atStart => exact ⟨0, rfl, Nat.zero_le _, HF0⟩
        case round =>
          obtain ⟨j, rfl, hj, HF⟩ := hrel
          by_cases hlt : j < k
          · have KP := Lib.hid (HF.out.more hlt)
            go_wp2_with (go_at_call 36; refine KP.out.mono ?_; rintro r w' ⟨rfl, hf⟩)
            have HF1 := Lib.hid hf
            clear hf
            go_wp2
            go_roundw
            case rel => exact ⟨j + 1, by go_num, by omega, HF1⟩
            case measure => simp [intOf]; omega
          · obtain rfl : j = k := by omega
            obtain ⟨m, Q, hq, hgb, hn, ha, hm, ht, hf⟩ := HF.out
            have hkl := HK.out.lt
            have hs := HS0.out
            have hr : Blk wr w.heap.size 60 [.nilFunc, .slice none 0 0, .slice none 0 0, .slice none 0 0] := HR0.out.of (ht.block _ (by omega) (by simp; omega))
            have hrf : w.heap.size ∉ m.foot := fun hg => by rcases hf _ hg with h1 | h1 <;> omega
            have HQ := Lib.hid hq
            have HN2 := Lib.hid hn
            have HA := Lib.hid ha
            have HM := Lib.hid hm
            have HT := Lib.hid ht
            have HFT := Lib.hid hf
            have HRF := Lib.hid hrf
            have b0 := hq.q.c0
            have b1 := hq.q.c1
            have b2 := hq.q.c2
            have b3 := hq.q.c3
            rw [hgb] at b0 b1 b2 b3
            have r0 := hr.cell (i := 0) rfl
            have r1 := hr.cell (i := 1) rfl
            have r2 := hr.cell (i := 2) rfl
            have r3 := hr.cell (i := 3) rfl
            have q0 := hr.free 0
            have q1 := hr.free 1
            have q2 := hr.free 2
            have q3 := hr.free 3
            have HRB := Lib.hid ((((hr.set 0 (.func (.func 30) #[] #[])).set 1 (.slice (some ⟨m.kb, 0, none⟩) Q.n m.kc)).set 2 (.slice (some ⟨m.tb, 0, none⟩) Q.tree.length m.tc)).set 3 (.slice (some ⟨m.pb, 0, none⟩) Q.n m.pc))
            have HTW : Hid (Touch [w.heap.size] wr ((((wr.setCell ⟨w.heap.size, 0, none⟩ (.func (.func 30) #[] #[])).setCell ⟨w.heap.size, 1, none⟩ (.slice (some ⟨m.kb, 0, none⟩) Q.n m.kc)).setCell ⟨w.heap.size, 2, none⟩ (.slice (some ⟨m.tb, 0, none⟩) Q.tree.length m.tc)).setCell ⟨w.heap.size, 3, none⟩ (.slice (some ⟨m.pb, 0, none⟩) Q.n m.pc))) :=
              (((Touch.setCell _ (by simp)).trans (Touch.setCell _ (by simp))).trans (Touch.setCell _ (by simp))).trans (Touch.setCell _ (by simp))
            have HS9 : Hid (w.heap.size < wr.heap.size ∧ kb < w.heap.size) := ⟨hr.lt, hkl⟩
            clear hlt hq hgb hn ha hm ht hf hkl hs hr hrf HF HF0
            go_wp2
            clear r0 r1 r2 r3 q0 q1 q2 q3 b0 b1 b2 b3
            generalize ((((wr.setCell ⟨w.heap.size, 0, none⟩ (.func (.func 30) #[] #[])).setCell ⟨w.heap.size, 1, none⟩ (.slice (some ⟨m.kb, 0, none⟩) Q.n m.kc)).setCell ⟨w.heap.size, 2, none⟩ (.slice (some ⟨m.tb, 0, none⟩) Q.tree.length m.tc)).setCell ⟨w.heap.size, 3, none⟩ (.slice (some ⟨m.pb, 0, none⟩) Q.n m.pc)) = w4 at *
            have r0 := HRB.out.cell (i := 0) rfl
            have r1 := HRB.out.cell (i := 1) rfl
            have r2 := HRB.out.cell (i := 2) rfl
            have r3 := HRB.out.cell (i := 3) rfl
            refine bodyPost_ret (v := .agg (qCells m Q).toArray) (by simp [results, Try.results29, go_sem, qCells, r0, r1, r2, r3]) rfl ⟨m, Q, rfl, HQ.out.apart HTW.out (fun g hg hm => ?_), HN2.out, HA.out, HM.out, ?_, fun g hg => ?_⟩
            · simp only [List.mem_singleton] at hm; subst hm; exact HRF.out hg
            · have h1 : Touch [kb] w wr := (Touch.of_below HB0.out _).trans HT.out
              have h2 := HTW.out
              exact h1.then_ (fun g hg => .inr (by simp at hg; omega)) h2
            · rcases HFT.out g hg with h1 | h1
              · exact .inl h1
              · right; have := HS0.out; omega
/-- New of a number out of range. -/
theorem new_bad {n : Int} (w : World) (hn : n < 0 ∨ 1048576 < n) : Calls Try.prog 12 #[.int .i64 n] w fun r w' => r = .returned (.tuple #[.pointer none, .int .i64 3]) ∧ w = w' := by
  rcases hn with hn | hn
  · go_enter Try.func12, Try.ntmps12
    go_wp2
    go_ret2
    exact ⟨rfl, rfl⟩
  · have h0 : ¬ n < 0 := by omega
    go_enter Try.func12, Try.ntmps12
    go_wp2
    go_ret2
    exact ⟨rfl, rfl⟩
/-- A number that is known, in the slots. -/
theorem made_keys (n : Nat) : ∀ w : World, n ≤ 1048576 → (Instr.makeSlice 55 (.int .i64 n) (.int .i64 n)).run Try.prog w = .ok (.slice (some ⟨w.heap.size, 0, none⟩) n n) (w.alloc (.cells (madeCells #[.int .i64 0, .int .i64 0] (n * 2)) 57)) := by
  intro w hn
  obtain ⟨i0, hi, hz0, hz1, hz2⟩ := info_parts Try.infoKey
  have h := run_make (P := Try.prog) w 55 57 i0 _ Try.underlying55 hi hz0 .i64 .i64 n n (by omega) (by omega) (by rw [hz2]; omega) (by omega)
  rw [hz1] at h
  simp only [Int.toNat_natCast] at h
  exact h
theorem keyC_made (n : Nat) : (madeCells #[.int .i64 0, .int .i64 0] (n * 2)).toList = keyC (fun _ => 0) (fun _ => 0) n := by
  unfold madeCells keyC
  refine List.ext_getElem? fun i => ?_
  by_cases hi : i < n * 2
  · rw [List.getElem?_map, List.getElem?_range hi]
    simp [hi]
    have h2 : i % 2 = 0 ∨ i % 2 = 1 := by omega
    rcases h2 with h2 | h2 <;> simp [h2]
  · rw [List.getElem?_eq_none (by simp; omega), List.getElem?_eq_none (by simp; omega)]
/-- The variables of the first k are theirs. -/
def varTo (k : Nat) : Nat → Int := fun e => if e < k then (e : Int) + 1 else 0
theorem varTo_succ (k : Nat) : upN (varTo k) k ((k : Int) + 1) = varTo (k + 1) := by
  funext e
  unfold upN varTo
  by_cases h1 : e = k
  · rw [if_pos h1, if_pos (by omega), h1]
  · rw [if_neg h1]
    by_cases h2 : e < k
    · rw [if_pos h2, if_pos (by omega)]
    · rw [if_neg h2, if_neg (by omega)]
theorem keyC_congr {act vr vr' : Nat → Int} {n : Nat} (h : ∀ e, e < n → vr e = vr' e) : keyC act vr n = keyC act vr' n := by
  unfold keyC
  refine List.map_congr_left fun j hj => ?_
  have := List.mem_range.1 hj
  rw [h (j / 2) (by omega)]
set_option maxHeartbeats 2000000 in
theorem new_ok {n : Nat} (w : World) (hn : n ≤ 1048576) : Calls Try.prog 12 #[.int .i64 n] w fun r w' => ∃ m Q, r = .returned (.tuple #[.pointer (some ⟨m.gb, 0, none⟩), .int .i64 0]) ∧ Qu 64 m Q w' ∧ Q.n = n ∧ Q.act = (fun _ => 0) ∧ (∀ e, e ∈ Q.tree ↔ e < n) ∧ Below w.heap.size w w' ∧ ∀ g, g ∈ m.foot → w.heap.size ≤ g := by
  have hn1 : ¬ 1048576 < (n : Int) := by omega
  have hn0 : ¬ (n : Int) < 0 := by omega
  have hn2 : (n : Int) ≤ 1048576 := by omega
  have hk := fun W => made_keys n W hn
  have HN := Lib.hid hn
  have HR0 : Hid (Row (w.alloc (.cells (madeCells #[.int .i64 0, .int .i64 0] (n * 2)) 57)) 57 2 w.heap.size n n (keyC (fun _ => 0) (varTo 0) n)) := by
    have h := Row.made (e := 57) (size := 2) w (madeCells #[.int .i64 0, .int .i64 0] (n * 2)).toList n (by unfold maxLen; omega) (by rw [Array.length_toList, size_madeCells])
    have h0 : (fun _ : Nat => (0 : Int)) = varTo 0 := by funext e; unfold varTo; rw [if_neg (by omega)]
    rw [Array.toArray_toList, keyC_made, h0] at h; rw [← h0] at h ⊢; exact h
  have HB0 := Lib.hid (boxed w (.cells (madeCells #[.int .i64 0, .int .i64 0] (n * 2)) 57))
  clear hn
  go_enter Try.func12, Try.ntmps12
  go_wp2
  go_loopw [16] (fun t wr => ∃ k : Nat, t = .int .i64 k ∧ k ≤ n ∧ Hid (Row wr 57 2 w.heap.size n n (keyC (fun _ => 0) (varTo k) n)) ∧ Hid (Below w.heap.size w wr)) (fun t _ => n - (intOf t).toNat)
  case atStart => exact ⟨0, rfl, Nat.zero_le _, HR0, HB0⟩
  case round =>
    obtain ⟨k, rfl, hk2, HR, HB⟩ := hrel
    by_cases hlt : k < n
    · have v1 := HR.out.cell (keyC_var (fun _ => 0) (varTo k) hlt)
      have q1 := HR.out.free (k * 2 + 1)
      have h1 := HR.out.set (k * 2 + 1) (.int .i64 ((k : Int) + 1))
      rw [keyC_setVar, varTo_succ] at h1
      have H1 := Lib.hid h1
      have HB1 := Lib.hid (HB.out.setCell (p := ⟨w.heap.size, k * 2 + 1, none⟩) (Nat.le_refl _) (.int .i64 ((k : Int) + 1)))
      generalize varTo k k = z at v1
      clear h1 HR HB
      go_wp2
      go_roundw
      case rel => exact ⟨k + 1, by go_num, by omega, H1, HB1⟩
      case measure => simp [intOf]; omega
    · obtain rfl : k = n := by omega
      have hrow : Row wr 57 2 w.heap.size k k (keyC (fun _ => 0) (fun e => (e : Int) + 1) k) := by
        have h := HR.out
        rw [keyC_congr (vr' := fun e => (e : Int) + 1) (fun e he => by unfold varTo; rw [if_pos he])] at h
        exact h
      have K : Calls Try.prog 29 #[.slice (some ⟨w.heap.size, 0, none⟩) k k, .func (.func 30) #[] #[]] wr fun r w' =>
        ∃ m Q, r = .returned (.agg #[.func (.func 30) #[] #[], .slice (some ⟨m.kb, 0, none⟩) Q.n m.kc, .slice (some ⟨m.tb, 0, none⟩) Q.tree.length m.tc, .slice (some ⟨m.pb, 0, none⟩) Q.n m.pc]) ∧ Qu 60 m Q w' ∧ Q.n = k ∧ Q.act = (fun _ => 0) ∧ (∀ e, e ∈ Q.tree ↔ e < k) ∧ Touch [w.heap.size] wr w' ∧ ∀ g, g ∈ m.foot → g = w.heap.size ∨ wr.heap.size ≤ g := newQueue_any HN.out hrow
      have K2 := Lib.hid K
      clear K hrow hlt HR
      go_wp2_with (go_at_call 29; refine K2.out.mono ?_; rintro r w' ⟨m, Q, rfl, hq, hn, ha, hm, ht, hf⟩)
      have HSZ : Hid (w.heap.size ≤ wr.heap.size) := HB.out.size
      have HFIN : Hid (Qu 64 { m with gb := w'.heap.size } Q (w'.alloc (.cells #[.func (.func 30) #[] #[], .slice (some ⟨m.kb, 0, none⟩) Q.n m.kc, .slice (some ⟨m.tb, 0, none⟩) Q.tree.length m.tc, .slice (some ⟨m.pb, 0, none⟩) Q.n m.pc] 64))) := by
        have l1 := hq.q.keys.lt
        have l2 := hq.q.tree.lt
        have l3 := hq.q.pls.lt
        have hb := boxed w' (.cells #[.func (.func 30) #[] #[], .slice (some ⟨m.kb, 0, none⟩) Q.n m.kc, .slice (some ⟨m.tb, 0, none⟩) Q.tree.length m.tc, .slice (some ⟨m.pb, 0, none⟩) Q.n m.pc] 64)
        have h2 := hq.q.below hb
        refine ⟨⟨?_, ?_, ?_, hq.q.d4, hq.q.d5, hq.q.d6, hq.q.few, Blk.new _ _ _, h2.keys, h2.tree, h2.pls⟩, hq.ok, hq.heap⟩
        · show w'.heap.size ≠ m.kb; omega
        · show w'.heap.size ≠ m.tb; omega
        · show w'.heap.size ≠ m.pb; omega
      have HBF : Hid (Below w.heap.size w (w'.alloc (.cells #[.func (.func 30) #[] #[], .slice (some ⟨m.kb, 0, none⟩) Q.n m.kc, .slice (some ⟨m.tb, 0, none⟩) Q.tree.length m.tc, .slice (some ⟨m.pb, 0, none⟩) Q.n m.pc] 64))) := by
        have h1 : Below w.heap.size wr w' := ht.below (fun g hg => by simp at hg; omega) HSZ.out
        exact (HB.out.trans h1).alloc (Nat.le_trans HSZ.out ht.size) _
      have HFT : Hid (∀ g, g ∈ ({ m with gb := w'.heap.size } : Mq).foot → w.heap.size ≤ g) := by
        have hs := ht.size
        have hz := HSZ.out
        intro g hg
        simp only [Mq.foot, List.mem_cons, List.not_mem_nil, or_false] at hg
        rcases hg with h1 | h1
        · omega
        · rcases hf g (by simp only [Mq.foot, List.mem_cons, List.not_mem_nil, or_false]; exact .inr h1) with h2 | h2 <;> omega
      rw [hn] at HFIN HBF
      have HX := Lib.hid (And.intro hn (And.intro ha hm))
      clear hq hn ha hm ht hf
      go_wp2
      go_ret2
      exact ⟨_, Q, rfl, HFIN.out, HX.out.1, HX.out.2.1, HX.out.2.2, HBF.out, HFT.out⟩
end Go.Proofs.Ytfighepopmaimaa
