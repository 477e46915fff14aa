/-
  Clone, copied, Copy; New as a heap.
-/
import Derived.Test.YtfighepopmaimaaOrdG
import Derived.WalkSpells
namespace Go.Proofs.Ytfighepopmaimaa
open Go.RowKit Go.Lib
open Go.RowKit (Below)

theorem ownsGet {w : World} {B : Nat} {e : TypeId} {size n : Nat} {v : Value} {xs : List Value} (h : w.ownsRow B e size v n xs) (hv : ¬ v = .slice none 0 0) : ∃ g c, v = .slice (some ⟨g, 0, none⟩) n c ∧ Row w e size g n c xs ∧ B ≤ g := by
  obtain ⟨hl, h2⟩ := h
  rcases h2 with ⟨h2, _⟩ | ⟨g, cap, cur, h2, h3, h4⟩
  · exact absurd h2 hv
  · exact ⟨g, cap, h2, ⟨hl, .inr ⟨g, cap, cur, rfl, Nat.zero_le _, h4⟩⟩, h3⟩
theorem one_keys (act vr : Nat → Int) (n : Nat) : ∀ u ∈ keyC act vr n, u.oneCell' = true := by
  intro u hu
  unfold keyC at hu
  obtain ⟨j, _, rfl⟩ := List.mem_map.1 hu
  split <;> rfl
theorem one_nums (f : Nat → Int) (n : Nat) : ∀ u ∈ numC f n, u.oneCell' = true := by
  intro u hu
  obtain ⟨j, _, rfl⟩ := List.mem_map.1 hu
  rfl
theorem one_tree (l : List Nat) : ∀ u ∈ treeC l, u.oneCell' = true := by
  intro u hu
  obtain ⟨j, _, rfl⟩ := List.mem_map.1 hu
  rfl
theorem Row.news {w : World} {e : TypeId} {size g n cap : Nat} {xs : List Value} (h : Row w e size g n cap xs) (o : Obj) : ∀ (j : Nat) (u : Value), xs[j]? = some u → (w.alloc o).cell? ((⟨g, 0, none⟩ : Addr).add j) = some u := fun j u hj => by
  rw [Addr.add_lit]
  exact (h.of (Below.heap_alloc w o g h.lt)).cell (by simpa using hj)

set_option maxHeartbeats 2000000 in
set_option maxRecDepth 100000 in
theorem cloneInt_any {g n c : Nat} {xs : List Value} {w : World} (h : Row w 3 1 g n c xs) (hn : n ≤ 1048576) (ho : ∀ u ∈ xs, u.oneCell' = true) :
    Calls Try.prog 43 #[.slice (some ⟨g, 0, none⟩) n c] w fun e w' => ∃ g' c', e = .returned (.slice (some ⟨g', 0, none⟩) n c') ∧ Row w' 3 1 g' n c' xs ∧ w.heap.size ≤ g' ∧ Below w.heap.size w w' := by
  obtain ⟨i0, hi, hz0, hz1, hz2⟩ := info_parts Try.infoInt
  have q22 : ∀ (w : World) (a : Option Addr) (n c n' c' : Nat), (binOp .eql 45 (.slice a n c) (.slice none n' c')).run Try.prog w = .ok (.bool a.isNone) w := fun w a n c n' c' => Lib.run_eql_slice_nil w _ _ a n c n' c' Try.underlying45
  have HR := Lib.hid h
  have HO := Lib.hid ho
  have HL := Lib.hid h.1
  clear h ho
  go_enter Try.func43, Try.ntmps43
  go_wp2_with (at_builtin; refine wpList_append_own _ rfl _ _ 45 rfl w.heap.size 3 i0 (.int .i64 0) 1 8 Try.underlying45 hi hz0 hz1 hz2 rfl (by decide) _ _ _ rfl (World.ownsRow_made w #[] 0 (Nat.le_refl _) (Nat.zero_le _) rfl) ⟨g, 0, none⟩ n c xs rfl ?qc1 ?qc2 ?qc3 ?qc4 ?qc5 ?qc6 ?_)
  case qc1 => exact HL.out
  case qc2 => exact HR.out.news _
  case qc3 => exact HO.out
  case qc4 => unfold maxLen; omega
  case qc5 => omega
  case qc6 => simp
  intro v' w1 hown hgrow hnil
  have hown2 : w1.ownsRow w.heap.size 3 1 v' n xs := by simpa using hown
  obtain ⟨g', c', rfl, hrow, hge⟩ := ownsGet hown2 hnil
  have HF := Lib.hid (And.intro hrow (And.intro hge (((Below.refl _ w).alloc (Nat.le_refl _) (.cells #[] 3)).grown hgrow (by simp) (by intro k hk; simp [Value.ownBlock] at hk; omega))))
  clear hown hgrow hnil hown2 hrow hge
  go_wp2
  go_ret
  exact ⟨g', c', rfl, HF.out.1, HF.out.2.1, HF.out.2.2⟩
set_option maxHeartbeats 2000000 in
set_option maxRecDepth 100000 in
theorem cloneKey_any {g n c : Nat} {xs : List Value} {w : World} (h : Row w 57 2 g n c xs) (hn : n ≤ 1048576) (ho : ∀ u ∈ xs, u.oneCell' = true) :
    Calls Try.prog 42 #[.slice (some ⟨g, 0, none⟩) n c] w fun e w' => ∃ g' c', e = .returned (.slice (some ⟨g', 0, none⟩) n c') ∧ Row w' 57 2 g' n c' xs ∧ w.heap.size ≤ g' ∧ Below w.heap.size w w' := by
  obtain ⟨i0, hi, hz0, hz1, hz2⟩ := info_parts Try.infoKey
  have q22 : ∀ (w : World) (a : Option Addr) (n c n' c' : Nat), (binOp .eql 55 (.slice a n c) (.slice none n' c')).run Try.prog w = .ok (.bool a.isNone) w := fun w a n c n' c' => Lib.run_eql_slice_nil w _ _ a n c n' c' Try.underlying55
  have HR := Lib.hid h
  have HO := Lib.hid ho
  have HL := Lib.hid h.1
  clear h ho
  go_enter Try.func42, Try.ntmps42
  go_wp2_with (at_builtin; refine wpList_append_own _ rfl _ _ 55 rfl w.heap.size 57 i0 (.agg #[.int .i64 0, .int .i64 0]) 2 16 Try.underlying55 hi hz0 hz1 hz2 rfl (by decide) _ _ _ rfl (World.ownsRow_made w #[] 0 (Nat.le_refl _) (Nat.zero_le _) rfl) ⟨g, 0, none⟩ n c xs rfl ?qc1 ?qc2 ?qc3 ?qc4 ?qc5 ?qc6 ?_)
  case qc1 => exact HL.out
  case qc2 => exact HR.out.news _
  case qc3 => exact HO.out
  case qc4 => unfold maxLen; omega
  case qc5 => omega
  case qc6 => simp
  intro v' w1 hown hgrow hnil
  have hown2 : w1.ownsRow w.heap.size 57 2 v' n xs := by simpa using hown
  obtain ⟨g', c', rfl, hrow, hge⟩ := ownsGet hown2 hnil
  have HF := Lib.hid (And.intro hrow (And.intro hge (((Below.refl _ w).alloc (Nat.le_refl _) (.cells #[] 57)).grown hgrow (by simp) (by intro k hk; simp [Value.ownBlock] at hk; omega))))
  clear hown hgrow hnil hown2 hrow hge
  go_wp2
  go_ret
  exact ⟨g', c', rfl, HF.out.1, HF.out.2.1, HF.out.2.2⟩

/-- What a clone leaves. -/
def Cloned (e : TypeId) (size n : Nat) (xs : List Value) (g' c' : Nat) (W w' : World) : Prop := Row w' e size g' n c' xs ∧ W.heap.size ≤ g' ∧ Below W.heap.size W w'
set_option maxHeartbeats 4000000 in
set_option maxRecDepth 100000 in
theorem copied_any {T : TypeId} {m : Mq} {Q : Qs} {w : World} (h : Qu T m Q w) :
    Calls Try.prog 38 #[.pointer (some ⟨m.gb, 0, none⟩)] w fun r w' =>
      ∃ kb tb pb kc tc pc, r = .returned (.agg #[.func (.func 30) #[] #[], .slice (some ⟨kb, 0, none⟩) Q.n kc, .slice (some ⟨tb, 0, none⟩) Q.tree.length tc, .slice (some ⟨pb, 0, none⟩) Q.n pc]) ∧
        Row w' 57 2 kb Q.n kc (keyC Q.act (fun e => (e : Int) + 1) Q.n) ∧ Row w' 3 1 tb Q.tree.length tc (treeC Q.tree) ∧ Row w' 3 1 pb Q.n pc (numC Q.pl Q.n) ∧
        w.heap.size ≤ kb ∧ w.heap.size ≤ tb ∧ w.heap.size ≤ pb ∧ kb ≠ tb ∧ kb ≠ pb ∧ tb ≠ pb ∧ Below w.heap.size w w' := by
  have hb0 := boxed w (.cells #[.nilFunc, .slice none 0 0, .slice none 0 0, .slice none 0 0] 60)
  have hr0 : Blk (w.alloc (.cells #[.nilFunc, .slice none 0 0, .slice none 0 0, .slice none 0 0] 60)) w.heap.size 60 [.nilFunc, .slice none 0 0, .slice none 0 0, .slice none 0 0] := Blk.new _ _ _
  have hs0 : (w.alloc (.cells #[.nilFunc, .slice none 0 0, .slice none 0 0, .slice none 0 0] 60)).heap.size = w.heap.size + 1 := by simp
  generalize hwa : w.alloc (.cells #[.nilFunc, .slice none 0 0, .slice none 0 0, .slice none 0 0] 60) = wa at *
  have H := Lib.hid h
  have HB0 := Lib.hid hb0
  have HWA := Lib.hid hwa
  have HQA := Lib.hid (h.below hb0)
  have hfr : ∀ g, g ∈ m.foot → g ∉ [w.heap.size] := fun g hg hm => by have := h.q.foot g hg; simp at hm; omega
  have HFR := Lib.hid hfr
  have HFEW := Lib.hid h.q.few
  have HLEN : Hid (Q.tree.length ≤ 1048576) := by have := h.ok.len; have := h.q.few; unfold Hid; omega
  have HRB := Lib.hid hr0
  have HSZ := Lib.hid hs0
  have HQW : Hid (∀ W, Touch [w.heap.size] wa W → Qu T m Q W) := fun W hW => HQA.out.apart hW HFR.out
  have HH : Hid (∀ W, Hid (Touch [w.heap.size] wa W) → W.cell? ⟨m.gb, 0, none⟩ = some (.func (.func 30) #[] #[]) ∧ W.cell? ⟨m.gb, 1, none⟩ = some (.slice (some ⟨m.kb, 0, none⟩) Q.n m.kc) ∧ W.cell? ⟨m.gb, 2, none⟩ = some (.slice (some ⟨m.tb, 0, none⟩) Q.tree.length m.tc) ∧ W.cell? ⟨m.gb, 3, none⟩ = some (.slice (some ⟨m.pb, 0, none⟩) Q.n m.pc) ∧ Hid (Touch [w.heap.size] wa W)) :=
    fun W hW => ⟨(HQW.out W hW).q.c0, (HQW.out W hW).q.c1, (HQW.out W hW).q.c2, (HQW.out W hW).q.c3, hW⟩
  have K1 : Hid (∀ W, Hid (Below wa.heap.size wa W) → Calls Try.prog 42 #[.slice (some ⟨m.kb, 0, none⟩) Q.n m.kc] W fun e w' => ∃ g' c', e = .returned (.slice (some ⟨g', 0, none⟩) Q.n c') ∧ Hid (Cloned 57 2 Q.n (keyC Q.act (fun e => (e : Int) + 1) Q.n) g' c' W w') ∧ Hid (Touch [w.heap.size] wa w') ∧ Hid (Below wa.heap.size wa w')) := fun W hW => by
    have hw := HQW.out W (Touch.of_below hW.out _)
    refine (cloneKey_any hw.q.keys HFEW.out (one_keys _ _ _)).mono ?_
    rintro e w' ⟨g', c', he, hr, hg, hb⟩
    have hb2 := hW.out.trans (hb.mono hW.out.size)
    exact ⟨g', c', he, ⟨hr, hg, hb⟩, Touch.of_below hb2 _, hb2⟩
  have K2 : Hid (∀ W, Hid (Below wa.heap.size wa W) → Calls Try.prog 43 #[.slice (some ⟨m.tb, 0, none⟩) Q.tree.length m.tc] W fun e w' => ∃ g' c', e = .returned (.slice (some ⟨g', 0, none⟩) Q.tree.length c') ∧ Hid (Cloned 3 1 Q.tree.length (treeC Q.tree) g' c' W w') ∧ Hid (Touch [w.heap.size] wa w') ∧ Hid (Below wa.heap.size wa w')) := fun W hW => by
    have hw := HQW.out W (Touch.of_below hW.out _)
    refine (cloneInt_any hw.q.tree HLEN.out (one_tree _)).mono ?_
    rintro e w' ⟨g', c', he, hr, hg, hb⟩
    have hb2 := hW.out.trans (hb.mono hW.out.size)
    exact ⟨g', c', he, ⟨hr, hg, hb⟩, Touch.of_below hb2 _, hb2⟩
  have K3 : Hid (∀ W, Hid (Below wa.heap.size wa W) → Calls Try.prog 43 #[.slice (some ⟨m.pb, 0, none⟩) Q.n m.pc] W fun e w' => ∃ g' c', e = .returned (.slice (some ⟨g', 0, none⟩) Q.n c') ∧ Hid (Cloned 3 1 Q.n (numC Q.pl Q.n) g' c' W w') ∧ Hid (Touch [w.heap.size] wa w') ∧ Hid (Below wa.heap.size wa w') ∧
      (w'.cell? ⟨w.heap.size, 0, none⟩ = some .nilFunc ∧ w'.cell? ⟨w.heap.size, 1, none⟩ = some (.slice none 0 0) ∧ w'.cell? ⟨w.heap.size, 2, none⟩ = some (.slice none 0 0) ∧ w'.cell? ⟨w.heap.size, 3, none⟩ = some (.slice none 0 0)) ∧ (w'.frozen? ⟨w.heap.size, 0, none⟩ = false ∧ w'.frozen? ⟨w.heap.size, 1, none⟩ = false ∧ w'.frozen? ⟨w.heap.size, 2, none⟩ = false ∧ w'.frozen? ⟨w.heap.size, 3, none⟩ = false)) := fun W hW => by
    have hw := HQW.out W (Touch.of_below hW.out _)
    refine (cloneInt_any hw.q.pls HFEW.out (one_nums _ _)).mono ?_
    rintro e w' ⟨g', c', he, hr, hg, hb⟩
    have hb2 := hW.out.trans (hb.mono hW.out.size)
    have hk : Blk w' w.heap.size 60 [.nilFunc, .slice none 0 0, .slice none 0 0, .slice none 0 0] := HRB.out.of (hb2.block _ (by rw [HSZ.out]; omega))
    exact ⟨g', c', he, ⟨hr, hg, hb⟩, Touch.of_below hb2 _, hb2, ⟨hk.cell (i := 0) rfl, hk.cell (i := 1) rfl, hk.cell (i := 2) rfl, hk.cell (i := 3) rfl⟩, hk.free 0, hk.free 1, hk.free 2, hk.free 3⟩
  have HD : Hid (Touch [w.heap.size] wa wa.drew) := Touch.quiet ⟨1, rfl⟩ _
  have HDB : Hid (Below wa.heap.size wa wa.drew) := ⟨rfl, rfl, rfl, Nat.le_refl _, fun _ _ => rfl⟩
  have HT4 : Hid (∀ W, Hid (Touch [w.heap.size] wa W) → ∀ x0 x1 x2 x3 : Value, Hid (Touch [w.heap.size] wa ((((W.setCell ⟨w.heap.size, 0, none⟩ x0).setCell ⟨w.heap.size, 1, none⟩ x1).setCell ⟨w.heap.size, 2, none⟩ x2).setCell ⟨w.heap.size, 3, none⟩ x3))) := fun W hW x0 x1 x2 x3 =>
    (((hW.out.trans (Touch.setCell _ (by simp))).trans (Touch.setCell _ (by simp))).trans (Touch.setCell _ (by simp))).trans (Touch.setCell _ (by simp))
  clear h hb0 hr0 hs0 hwa hfr
  go_enter Try.func38, Try.ntmps38
  go_wp2
  rw [HWA.out]
  go_region_held3 (fun W => W.cell? ⟨m.gb, 0, none⟩ = some (.func (.func 30) #[] #[]) ∧ W.cell? ⟨m.gb, 1, none⟩ = some (.slice (some ⟨m.kb, 0, none⟩) Q.n m.kc) ∧ W.cell? ⟨m.gb, 2, none⟩ = some (.slice (some ⟨m.tb, 0, none⟩) Q.tree.length m.tc) ∧ W.cell? ⟨m.gb, 3, none⟩ = some (.slice (some ⟨m.pb, 0, none⟩) Q.n m.pc) ∧ Hid (Touch [w.heap.size] wa W)) (first | exact HH.out _ HD | exact HH.out _ (by assumption) | exact HH.out _ (HT4.out _ (by assumption) _ _ _ _))
    (first | (go_at_call 42; ((with_reducible refine (K1.out _ ?_).mono ?_); (· assumption); rintro e' w2 ⟨g1, k1, rfl, HC1, HT1, HBW1⟩)) | (go_at_call 43; ((with_reducible refine (K2.out _ ?_).mono ?_); (· assumption); rintro e' w3 ⟨g2, k2, rfl, HC2, HT2, HBW2⟩)) | (go_at_call 43; ((with_reducible refine (K3.out _ ?_).mono ?_); (· assumption); rintro e' w4 ⟨g3, k3, rfl, HC3, HT3, HBW3, ⟨r0, r1, r2, r3⟩, ⟨q0, q1, q2, q3⟩⟩)))
  have HBW4 : Hid (Blk w4 w.heap.size 60 [.nilFunc, .slice none 0 0, .slice none 0 0, .slice none 0 0]) := HRB.out.of (HBW3.out.block _ (by rw [HSZ.out]; omega))
  have HRB4 := Lib.hid ((((HBW4.out.set 0 (.func (.func 30) #[] #[])).set 1 (.slice (some ⟨g1, 0, none⟩) Q.n k1)).set 2 (.slice (some ⟨g2, 0, none⟩) Q.tree.length k2)).set 3 (.slice (some ⟨g3, 0, none⟩) Q.n k3))
  have HTW : Hid (Touch [w.heap.size] w4 ((((w4.setCell ⟨w.heap.size, 0, none⟩ (.func (.func 30) #[] #[])).setCell ⟨w.heap.size, 1, none⟩ (.slice (some ⟨g1, 0, none⟩) Q.n k1)).setCell ⟨w.heap.size, 2, none⟩ (.slice (some ⟨g2, 0, none⟩) Q.tree.length k2)).setCell ⟨w.heap.size, 3, none⟩ (.slice (some ⟨g3, 0, none⟩) Q.n k3))) :=
    (((Touch.setCell _ (by simp)).trans (Touch.setCell _ (by simp))).trans (Touch.setCell _ (by simp))).trans (Touch.setCell _ (by simp))
  clear r0 r1 r2 r3 q0 q1 q2 q3
  generalize ((((w4.setCell ⟨w.heap.size, 0, none⟩ (.func (.func 30) #[] #[])).setCell ⟨w.heap.size, 1, none⟩ (.slice (some ⟨g1, 0, none⟩) Q.n k1)).setCell ⟨w.heap.size, 2, none⟩ (.slice (some ⟨g2, 0, none⟩) Q.tree.length k2)).setCell ⟨w.heap.size, 3, none⟩ (.slice (some ⟨g3, 0, none⟩) Q.n k3)) = w5 at *
  go_wp2
  have r0 := HRB4.out.cell (i := 0) rfl
  have r1 := HRB4.out.cell (i := 1) rfl
  have r2 := HRB4.out.cell (i := 2) rfl
  have r3 := HRB4.out.cell (i := 3) rfl
  obtain ⟨hr1, hg1, hb1⟩ := HC1.out
  obtain ⟨hr2, hg2, hb2⟩ := HC2.out
  obtain ⟨hr3, hg3, hb3⟩ := HC3.out
  have hsz := HSZ.out
  have z1 := hr1.lt
  have z2 := hr2.lt
  have z3 := hr3.lt
  have s2 := hb2.size
  have s3 := hb3.size
  have hwa1 : wa.heap.size ≤ g1 := hg1
  have s1 := hb1.size
  change wa.heap.size ≤ w2.heap.size at s1
  have hne : ∀ g, wa.heap.size ≤ g → g ∉ [w.heap.size] := fun g hg hm => by simp at hm; omega
  have keep : ∀ g, wa.heap.size ≤ g → g < w4.heap.size → w5.heap[g]? = w4.heap[g]? := fun g hg hl => HTW.out.block g hl (hne g hg)
  have x1 := (hr1.of (hb2.block g1 z1)).of (hb3.block g1 (by omega))
  have x2 := hr2.of (hb3.block g2 z2)
  have y1 := x1.of (keep g1 (by omega) (by omega))
  have y2 := x2.of (keep g2 (by omega) (by omega))
  have y3 := hr3.of (keep g3 (by omega) (by omega))
  have hbw : Below w.heap.size w w5 := (HB0.out.trans (HBW3.out.mono (by omega))).trans (HTW.out.below (fun g hg => by simp at hg; omega) (by omega))
  exact bodyPost_ret (v := .agg #[.func (.func 30) #[] #[], .slice (some ⟨g1, 0, none⟩) Q.n k1, .slice (some ⟨g2, 0, none⟩) Q.tree.length k2, .slice (some ⟨g3, 0, none⟩) Q.n k3]) (by simp [results, Try.results38, go_sem, r0, r1, r2, r3]) rfl
    ⟨g1, g2, g3, k1, k2, k3, rfl, y1, y2, y3, by omega, by omega, by omega, by omega, by omega, by omega, hbw⟩
section
variable {p : Nat} {A : Hs} {fs : List Nat} {w : World}
set_option maxHeartbeats 1000000 in
theorem copy_any (h : HeapA p A fs w) : Calls Try.prog 24 #[.pointer (some ⟨p, 0, none⟩)] w fun r w' => ∃ p' fs', r = .returned (.pointer (some ⟨p', 0, none⟩)) ∧ HeapA p' A fs' w' ∧ Below w.heap.size w w' ∧ ∀ g, g ∈ fs' → w.heap.size ≤ g := by
  obtain ⟨m, Q, rfl, rfl, hq, hn, ha, hi, hf⟩ := h
  have K := Lib.hid (copied_any hq)
  have HQ := Lib.hid hq
  have HX := Lib.hid (And.intro hn (And.intro ha (And.intro hi hf)))
  clear hq hn ha hi hf
  go_enter Try.func24, Try.ntmps24
  go_wp2_with (go_at_call 38; refine K.out.mono ?_; rintro r w' ⟨kb, tb, pb, kc, tc, pc, rfl, hk, ht, hp, g1, g2, g3, d1, d2, d3, hb⟩)
  have HFIN : Hid (Qu 64 ⟨w'.heap.size, kb, tb, pb, kc, tc, pc⟩ Q (w'.alloc (.cells #[.func (.func 30) #[] #[], .slice (some ⟨kb, 0, none⟩) Q.n kc, .slice (some ⟨tb, 0, none⟩) Q.tree.length tc, .slice (some ⟨pb, 0, none⟩) Q.n pc] 64))) := by
    have l1 := hk.lt
    have l2 := ht.lt
    have l3 := hp.lt
    have hb9 : ∀ g, g < w'.heap.size → (w'.alloc (.cells #[.func (.func 30) #[] #[], .slice (some ⟨kb, 0, none⟩) Q.n kc, .slice (some ⟨tb, 0, none⟩) Q.tree.length tc, .slice (some ⟨pb, 0, none⟩) Q.n pc] 64)).heap[g]? = w'.heap[g]? := fun g hg => Below.heap_alloc w' _ g hg
    refine ⟨⟨?_, ?_, ?_, d1, d2, d3, HQ.out.q.few, Blk.new _ _ _, hk.of (hb9 _ l1), ht.of (hb9 _ l2), hp.of (hb9 _ l3)⟩, HQ.out.ok, HQ.out.heap⟩
    · show w'.heap.size ≠ kb; omega
    · show w'.heap.size ≠ tb; omega
    · show w'.heap.size ≠ pb; omega
  have HBF : Hid (Below w.heap.size w (w'.alloc (.cells #[.func (.func 30) #[] #[], .slice (some ⟨kb, 0, none⟩) Q.n kc, .slice (some ⟨tb, 0, none⟩) Q.tree.length tc, .slice (some ⟨pb, 0, none⟩) Q.n pc] 64))) := hb.alloc hb.size _
  have HG : Hid (∀ g, g ∈ (⟨w'.heap.size, kb, tb, pb, kc, tc, pc⟩ : Mq).foot → w.heap.size ≤ g) := fun g hg => by
    have := hb.size
    simp only [Mq.foot, List.mem_cons, List.not_mem_nil, or_false] at hg
    rcases hg with h1 | h1 | h1 | h1 <;> omega
  clear hk ht hp g1 g2 g3 d1 d2 d3 hb
  go_wp2
  go_ret
  exact ⟨w'.heap.size, _, rfl, ⟨_, Q, rfl, rfl, HFIN.out, HX.out.1, HX.out.2.1, HX.out.2.2.1, HX.out.2.2.2⟩, HBF.out, HG.out⟩
theorem newA_ok {n : Nat} (w : World) (hn : n ≤ 1048576) : Calls Try.prog 12 #[.int .i64 n] w fun r w' => ∃ p fs, r = .returned (.tuple #[.pointer (some ⟨p, 0, none⟩), .int .i64 0]) ∧ HeapA p (Hs.new n) fs w' ∧ Below w.heap.size w w' ∧ ∀ g, g ∈ fs → w.heap.size ≤ g := by
  refine (new_ok w hn).mono ?_
  rintro r w' ⟨m, Q, hr, hq, hn', ha, hm, hb, hf⟩
  exact ⟨m.gb, m.foot, hr, ⟨m, Q, rfl, rfl, hq, hn', ha, fun e he => by rw [eq_comm, decide_eq_true_iff.2 ((hm e).2 he)]; rfl, Hs.Fit.new hn⟩, hb, hf⟩
end
/-! Of nil. -/
theorem bump_nil (v b : Int) (w : World) : Calls Try.prog 14 #[.pointer none, .int .i64 v, .int .i64 b] w fun r w' => r = .returned (.int .i64 1) ∧ w = w' := by
  go_enter Try.func14, Try.ntmps14
  go_wp2
  go_ret
  exact ⟨rfl, rfl⟩
theorem pop_nil (w : World) : Calls Try.prog 16 #[.pointer none] w fun r w' => r = .returned (.tuple #[.int .i64 0, .int .i64 1]) ∧ w = w' := by
  go_enter Try.func16, Try.ntmps16
  go_wp2
  go_ret2
  exact ⟨rfl, rfl⟩
theorem push_nil (v : Int) (w : World) : Calls Try.prog 18 #[.pointer none, .int .i64 v] w fun r w' => r = .returned (.int .i64 1) ∧ w = w' := by
  go_enter Try.func18, Try.ntmps18
  go_wp2
  go_ret
  exact ⟨rfl, rfl⟩
theorem has_nil (v : Int) (w : World) : Calls Try.prog 20 #[.pointer none, .int .i64 v] w fun r w' => r = .returned (.bool false) ∧ w = w' := by
  go_enter Try.func20, Try.ntmps20
  go_wp2
  go_ret
  exact ⟨rfl, rfl⟩
theorem len_nil (w : World) : Calls Try.prog 22 #[.pointer none] w fun r w' => r = .returned (.int .i64 0) ∧ w = w' := by
  go_enter Try.func22, Try.ntmps22
  go_wp2
  go_ret
  exact ⟨rfl, rfl⟩
theorem copy_nil (w : World) : Calls Try.prog 24 #[.pointer none] w fun r w' => r = .returned (.pointer none) ∧ w = w' := by
  go_enter Try.func24, Try.ntmps24
  go_wp2
  go_ret
  exact ⟨rfl, rfl⟩
end Go.Proofs.Ytfighepopmaimaa
