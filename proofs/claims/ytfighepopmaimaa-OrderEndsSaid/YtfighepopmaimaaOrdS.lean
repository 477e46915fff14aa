/-
  The reference's Copy; its heap among others.
-/
import Derived.Test.YtfighepopmaimaaOrdR
import Derived.Deep.RegionLaw
namespace Go.Proofs.Ytfighepopmaimaa
open Go.RowKit Go.Lib
open Go.RowKit (Below)

theorem one_bools (f : Nat → Bool) (n : Nat) : ∀ u ∈ boolC f n, u.oneCell' = true := by
  intro u hu
  obtain ⟨j, _, rfl⟩ := List.mem_map.1 hu
  rfl
theorem Row.newsAt {w : World} {e : TypeId} {size g n cap : Nat} {xs : List Value} (h : Row w e size g n cap xs) : ∀ (j : Nat) (u : Value), xs[j]? = some u → w.cell? ((⟨g, 0, none⟩ : Addr).add j) = some u := fun j u hj => by
  rw [Addr.add_lit]
  exact h.cell (by simpa using hj)
section
variable {p ab bb ac bc : Nat} {A : Hs} {w : World}
set_option maxHeartbeats 4000000 in
set_option maxRecDepth 100000 in
theorem refCopy_pos (h : RefR p ab bb ac bc A w) (hn : 0 < A.n) : Calls Try.prog 25 #[.pointer (some ⟨p, 0, none⟩)] w fun r w' => ∃ q fs, r = .returned (.pointer (some ⟨q, 0, none⟩)) ∧ RF q A fs w' ∧ Below w.heap.size w w' ∧ ∀ g, g ∈ fs → w.heap.size ≤ g := by
  obtain ⟨i0, hi, hz0, hz1, hz2⟩ := info_parts Try.infoInt
  obtain ⟨j0, hj, hy0, hy1, hy2⟩ := info_parts Try.infoBool
  have hfew := h.fit.1
  have H := Lib.hid h
  have HH : Hid (∀ W, Hid (Below w.heap.size w W) → W.cell? ⟨p, 0, none⟩ = some (.slice (some ⟨ab, 0, none⟩) A.n ac) ∧ W.cell? ⟨p, 1, none⟩ = some (.slice (some ⟨bb, 0, none⟩) A.n bc) ∧ Hid (Below w.heap.size w W)) := fun W hW => ⟨(h.below hW).c0, (h.below hW).c1, hW⟩
  have HN1 : Hid (∀ W, Hid (Below w.heap.size w W) → ∀ (j : Nat) (u : Value), (numC A.act A.n)[j]? = some u → W.cell? ((⟨ab, 0, none⟩ : Addr).add j) = some u) := fun W hW => (h.below hW).acts.newsAt
  have HN2 : Hid (∀ W, Hid (Below w.heap.size w W) → ∀ (j : Nat) (u : Value), (boolC A.inn A.n)[j]? = some u → W.cell? ((⟨bb, 0, none⟩ : Addr).add j) = some u) := fun W hW => (h.below hW).inns.newsAt
  have HGB : Hid (∀ W w1, Hid (Below w.heap.size w W) → W.grownBy w1 none → Hid (Below w.heap.size w w1)) := fun W w1 hW hg => hW.out.grown hg hW.out.size (fun k hk => by cases hk)
  have HD : Hid (Below w.heap.size w w.drew) := ⟨rfl, rfl, rfl, Nat.le_refl _, fun _ _ => rfl⟩
  have HL1 : Hid ((numC A.act A.n).length = A.n * 1) := by unfold Hid; rw [numC_len, Nat.mul_one]
  have HL2 : Hid ((boolC A.inn A.n).length = A.n * 1) := by unfold Hid; rw [boolC_len, Nat.mul_one]
  have HBX : Hid (∀ W o, Hid (Below w.heap.size w W) → Hid (Below w.heap.size w (W.alloc o))) := fun W o hW => hW.out.alloc hW.out.size o
  have h63 : 0 + A.n ≤ maxLen := by unfold maxLen; omega
  clear h
  go_enter Try.func25, Try.ntmps25
  go_wp2
  go_region_held3 (fun W => W.cell? ⟨p, 0, none⟩ = some (.slice (some ⟨ab, 0, none⟩) A.n ac) ∧ W.cell? ⟨p, 1, none⟩ = some (.slice (some ⟨bb, 0, none⟩) A.n bc) ∧ Hid (Below w.heap.size w W)) (first | exact HH.out _ HD | exact HH.out _ (by assumption) | exact HH.out _ (HBX.out _ _ (by assumption)))
    (first | (refine step_append_lies _ (by rfl) _ _ 45 (by rfl) 0 3 i0 (.int .i64 0) 1 8 Try.underlying45 hi hz0 hz1 hz2 rfl (by decide) (.slice none 0 0) 0 [] (by rfl) (World.ownsRow_nil _ _ _ _) ⟨ab, 0, none⟩ A.n ac (numC A.act A.n) (by rfl) HL1.out (HN1.out _ (by assumption)) (one_nums _ _) hn h63 (by omega) (Nat.zero_le _) _ rfl ?_; intro g1 k1 w1 hown1 hgrow1 hat1 hlt1; have HB1 := HGB.out _ _ (by assumption) hgrow1) | (refine step_append_lies _ (by rfl) _ _ 47 (by rfl) 0 4 j0 (.bool false) 1 1 Try.underlying47 hj hy0 hy1 hy2 rfl (by decide) (.slice none 0 0) 0 [] (by rfl) (World.ownsRow_nil _ _ _ _) ⟨bb, 0, none⟩ A.n bc (boolC A.inn A.n) (by rfl) HL2.out (HN2.out _ (by assumption)) (one_bools _ _) hn h63 (by omega) (Nat.zero_le _) _ rfl ?_; intro g2 k2 w2 hown2 hgrow2 hat2 hlt2; have HB2 := HGB.out _ _ (by assumption) hgrow2))
  have HFIN : Hid (RefR w2.heap.size g1 g2 k1 k2 A (w2.alloc (.cells #[.slice (some ⟨g1, 0, none⟩) A.n k1, .slice (some ⟨g2, 0, none⟩) A.n k2] 66))) := by
    rw [Nat.zero_add, List.nil_append] at hown1 hown2
    have e1 : g1 = w.heap.size := by rcases hat1 with h | h; cases h; exact h
    have e2 : g2 = w1.heap.size := by rcases hat2 with h | h; cases h; exact h
    have hs := hgrow2.size
    have r1 : Row w1 3 1 g1 A.n k1 (numC A.act A.n) := hown1
    have r2 : Row w2 4 1 g2 A.n k2 (boolC A.inn A.n) := hown2
    have r1' := r1.of (hgrow2.block g1 hlt1 (fun h => by cases h))
    have ha : ∀ g, g < w2.heap.size → (w2.alloc (.cells #[.slice (some ⟨g1, 0, none⟩) A.n k1, .slice (some ⟨g2, 0, none⟩) A.n k2] 66)).heap[g]? = w2.heap[g]? := fun g hg => Below.heap_alloc w2 _ g hg
    exact ⟨by omega, by omega, by omega, Blk.new _ _ _, r1'.of (ha g1 (by omega)), r2.of (ha g2 hlt2), H.out.fit⟩
  have HBF := HBX.out w2 (.cells #[.slice (some ⟨g1, 0, none⟩) A.n k1, .slice (some ⟨g2, 0, none⟩) A.n k2] 66) HB2
  have HGS : Hid (∀ g, g ∈ [w2.heap.size, g1, g2] → w.heap.size ≤ g) := fun g hg => by
    have e1 : g1 = w.heap.size := by rcases hat1 with h | h; cases h; exact h
    have e2 : g2 = w1.heap.size := by rcases hat2 with h | h; cases h; exact h
    have h1 := HB1.out.size
    have h2 := HB2.out.size
    simp only [List.mem_cons, List.not_mem_nil, or_false] at hg
    rcases hg with rfl | rfl | rfl <;> omega
  clear hown1 hown2 hgrow1 hgrow2 hat1 hat2 hlt1 hlt2 HB1
  go_wp2
  go_ret
  exact ⟨w2.heap.size, _, rfl, ⟨g1, g2, k1, k2, rfl, HFIN.out⟩, HBF.out, HGS.out⟩
theorem run_append_nils {P : Program} {w : World} (t ty e : TypeId) (i : TypeInfo) (ht : P.underlying t = some (.slice e)) (hi : P.info? e = some i) (b : Addr) (c : Nat) :
    (Builtin.append_ #[t, t] ty #[.slice none 0 0, .slice (some b) 0 c]).run P w = .ok (.slice none 0 0) w := by
  simp [Builtin.append_, run_underlying ht, sizeOf, typeInfo, hi, Builtin.lenOf, Builtin.firstCells, loadCells, loadCellsFrom]
/-- A heap without variables: what Copy makes of one. -/
def RZ (p : Nat) : Ast := fun fs w => fs = [p] ∧ Blk w p 66 [.slice none 0 0, .slice none 0 0]
theorem RZ.loc (p : Nat) : Loc (RZ p) := ⟨fun fs w w' h hb => ⟨h.1, h.2.of (hb _ (by rw [h.1]; simp))⟩, fun fs w h g hg => by rw [h.1] at hg; simp at hg; subst hg; exact h.2.lt⟩
set_option maxHeartbeats 1000000 in
theorem refCopy_zero (h : RefR p ab bb ac bc A w) (hn : A.n = 0) : Calls Try.prog 25 #[.pointer (some ⟨p, 0, none⟩)] w fun r w' => ∃ q fs, r = .returned (.pointer (some ⟨q, 0, none⟩)) ∧ RZ q fs w' ∧ Below w.heap.size w w' ∧ ∀ g, g ∈ fs → w.heap.size ≤ g := by
  obtain ⟨i0, hi, hz0, hz1, hz2⟩ := info_parts Try.infoInt
  obtain ⟨j0, hj, hy0, hy1, hy2⟩ := info_parts Try.infoBool
  have c0 := h.c0
  have c1 := h.c1
  rw [hn] at c0 c1
  have k1 := fun W => run_append_nils (P := Try.prog) (w := W) 45 45 3 i0 Try.underlying45 hi ⟨ab, 0, none⟩ ac
  have k2 := fun W => run_append_nils (P := Try.prog) (w := W) 47 47 4 j0 Try.underlying47 hj ⟨bb, 0, none⟩ bc
  clear h hn
  go_enter Try.func25, Try.ntmps25
  go_wp2
  go_region
  have HF : Hid (RZ w.heap.size [w.heap.size] (w.alloc (.cells #[.slice none 0 0, .slice none 0 0] 66)).drew) := ⟨rfl, (Blk.new w [.slice none 0 0, .slice none 0 0] 66).of rfl⟩
  have HB : Hid (Below w.heap.size w (w.alloc (.cells #[.slice none 0 0, .slice none 0 0] 66)).drew) := (boxed w _).drew
  generalize (w.alloc (.cells #[.slice none 0 0, .slice none 0 0] 66)).drew = w2 at *
  clear k1 k2 c0 c1
  go_wp2
  go_ret
  exact ⟨w.heap.size, _, rfl, HF.out, HB.out, fun g hg => by simp at hg; omega⟩
theorem refPop_zero {q : Nat} {fs : List Nat} (h : RZ q fs w) : Calls Try.prog 17 #[.pointer (some ⟨q, 0, none⟩)] w fun r w' => r = .returned (.tuple #[.int .i64 0, .int .i64 6]) ∧ w = w' := by
  have c1 : w.cell? ⟨q, 1, none⟩ = some (.slice none 0 0) := h.2.cell rfl
  clear h
  go_enter Try.func17, Try.ntmps17
  go_wp2
  go_loop [4, 5] (fun s t => s = .int .i64 (-1) ∧ t = .int .i64 0) (fun _ _ => 0)
  case atStart => exact ⟨rfl, rfl⟩
  case round =>
    obtain ⟨rfl, rfl⟩ := hrel
    go_wp2
    go_ret2
    exact ⟨rfl, rfl⟩
/-- What the reference's Copy gives. -/
def RC (q : Nat) (A : Hs) : Ast := fun fs w => RF q A fs w ∨ (A.n = 0 ∧ RZ q fs w)
theorem RC.loc (q : Nat) (A : Hs) : Loc (RC q A) := ⟨fun fs w w' h hb => h.imp (fun h => (RF.loc q A).stays _ _ _ h hb) fun h => ⟨h.1, (RZ.loc q).stays _ _ _ h.2 hb⟩, fun fs w h => by
    rcases h with h | h
    · exact (RF.loc q A).lt _ _ h
    · exact (RZ.loc q).lt _ _ h.2⟩
end
section
variable {W w : World} {ps : List Ast} {i p : Nat} {A : Hs}
theorem St.refNew (h : St W ps w) {n : Nat} (hn : n ≤ 1048576) : Calls Try.prog 13 #[.int .i64 n] w fun r w' => ∃ p, r = .returned (.tuple #[.pointer (some ⟨p, 0, none⟩), .int .i64 0]) ∧ St W (ps ++ [RF p (Hs.new n)]) w' := by
  refine (refNew_ok w hn).mono ?_
  rintro r w' ⟨p, fs, hr, h1, hb, hf⟩
  exact ⟨p, hr, h.more (P := RF p (Hs.new n)) h1 (RF.loc _ _) hb hf⟩
theorem St.refBump (h : St W ps w) (hi : ps[i]? = some (RF p A)) (v b : Int) : Calls Try.prog 15 #[.pointer (some ⟨p, 0, none⟩), .int .i64 v, .int .i64 b] w fun r w' => r = .returned (.int .i64 (A.bumpE v b)) ∧ St W (ps.set i (RF p (A.bumpA v b))) w' := by
  obtain ⟨fs, ⟨ab, bb, ac, bc, rfl, h1⟩, h2⟩ := h.step hi (RF.loc p (A.bumpA v b))
  refine (refBump_any h1 v b).mono ?_
  rintro r w' ⟨hr, hs⟩
  exact ⟨hr, h2 w' hs⟩
theorem St.refPop (h : St W ps w) (hi : ps[i]? = some (RF p A)) : Calls Try.prog 17 #[.pointer (some ⟨p, 0, none⟩)] w fun r w' => r = .returned (.tuple #[.int .i64 A.popV, .int .i64 A.popE]) ∧ St W (ps.set i (RF p A.popA)) w' := by
  obtain ⟨fs, ⟨ab, bb, ac, bc, rfl, h1⟩, h2⟩ := h.step hi (RF.loc p A.popA)
  refine (refPop_any h1).mono ?_
  rintro r w' ⟨hr, hs⟩
  exact ⟨hr, h2 w' hs⟩
theorem St.refPush (h : St W ps w) (hi : ps[i]? = some (RF p A)) (v : Int) : Calls Try.prog 19 #[.pointer (some ⟨p, 0, none⟩), .int .i64 v] w fun r w' => r = .returned (.int .i64 (A.pushE v)) ∧ St W (ps.set i (RF p (A.pushA v))) w' := by
  obtain ⟨fs, ⟨ab, bb, ac, bc, rfl, h1⟩, h2⟩ := h.step hi (RF.loc p (A.pushA v))
  refine (refPush_any h1 v).mono ?_
  rintro r w' ⟨hr, hs⟩
  exact ⟨hr, h2 w' hs⟩
theorem St.refHas (h : St W ps w) (hi : ps[i]? = some (RF p A)) (v : Int) : Calls Try.prog 21 #[.pointer (some ⟨p, 0, none⟩), .int .i64 v] w fun r w' => r = .returned (.bool (A.hasB v)) ∧ w = w' := by
  obtain ⟨fs, ab, bb, ac, bc, _, h1⟩ := h.get hi
  exact refHas_any h1 v
theorem St.refLen (h : St W ps w) (hi : ps[i]? = some (RF p A)) : Calls Try.prog 23 #[.pointer (some ⟨p, 0, none⟩)] w fun r w' => r = .returned (.int .i64 A.lenN) ∧ w = w' := by
  obtain ⟨fs, ab, bb, ac, bc, _, h1⟩ := h.get hi
  exact refLen_any h1
theorem St.refCopy (h : St W ps w) (hi : ps[i]? = some (RF p A)) : Calls Try.prog 25 #[.pointer (some ⟨p, 0, none⟩)] w fun r w' => ∃ q, r = .returned (.pointer (some ⟨q, 0, none⟩)) ∧ St W (ps ++ [RC q A]) w' := by
  obtain ⟨fs, ab, bb, ac, bc, _, h1⟩ := h.get hi
  rcases Nat.eq_zero_or_pos A.n with hn | hn
  · refine (refCopy_zero h1 hn).mono ?_
    rintro r w' ⟨q, gs, hr, h2, hb, hg⟩
    exact ⟨q, hr, h.more (P := RC q A) (.inr ⟨hn, h2⟩) (RC.loc _ _) hb hg⟩
  · refine (refCopy_pos h1 hn).mono ?_
    rintro r w' ⟨q, gs, hr, h2, hb, hg⟩
    exact ⟨q, hr, h.more (P := RC q A) (.inl h2) (RC.loc _ _) hb hg⟩
theorem St.refPopC (h : St W ps w) (hi : ps[i]? = some (RC p A)) : Calls Try.prog 17 #[.pointer (some ⟨p, 0, none⟩)] w fun r w' => r = .returned (.tuple #[.int .i64 A.popV, .int .i64 A.popE]) ∧ St W (ps.set i (RC p A.popA)) w' := by
  obtain ⟨fs, h1, h2⟩ := h.step hi (RC.loc p A.popA)
  rcases h1 with ⟨ab, bb, ac, bc, rfl, h1⟩ | ⟨hn, h1⟩
  · refine (refPop_any h1).mono ?_
    rintro r w' ⟨hr, fs', g1, g2, g3⟩
    exact ⟨hr, h2 w' ⟨fs', .inl g1, g2, g3⟩⟩
  · have hb : A.best = none := bestN_none.2 fun f hf => by omega
    have hV : A.popV = 0 := by unfold Hs.popV; rw [hb]
    have hE : A.popE = 6 := by unfold Hs.popE; rw [hb]
    rw [hV, hE]
    refine (refPop_zero h1).mono ?_
    rintro r w' ⟨hr, rfl⟩
    exact ⟨hr, h2 w ⟨fs, .inr ⟨by rw [Hs.popA_n]; exact hn, h1⟩, Touch.refl _ _, fun _ hg => .inl hg⟩⟩
end
end Go.Proofs.Ytfighepopmaimaa
