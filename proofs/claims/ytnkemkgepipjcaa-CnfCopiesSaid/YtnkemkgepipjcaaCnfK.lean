/-
  Copy: each clause of the copy lies in a block of its own.
-/
import Derived.Test.YtnkemkgepipjcaaCnfE
import Derived.Laws.CopyOwn
import Derived.Deep.OwnRows
import Derived.OwnWalk
namespace Go.Proofs.Ytnkemkgepipjcaa
open Go.RowKit Go.Lib
open Go.RowKit (Below)

theorem Try.size3 : (Try.prog.info? 3).map (·.size) = some 1 := by kernel_rfl

theorem ownsRow_stays' {w w' : World} {B n g c : Nat} {e : TypeId} {xs : List Value} (h : w.ownsRow B e 1 (.slice (some ⟨g, 0, none⟩) n c) n xs) (hb : w'.heap[g]? = w.heap[g]?) : w'.ownsRow B e 1 (.slice (some ⟨g, 0, none⟩) n c) n xs := by
  refine ⟨h.1, ?_⟩
  rcases h.2 with h2 | ⟨g', cap, cur, h1, h2, h3, h4⟩
  · exact .inl h2
  · obtain rfl : g = g' := by
      injection h1 with e1 _ _
      injection e1 with e1
      injection e1
    exact .inr ⟨g, cap, cur, h1, h2, hb.trans h3, h4⟩
/-- What the outer slice holds when k clauses have been copied. -/
def topL (G : Nat → Nat) (zss : List (List Int)) (k : Nat) : List Value := (List.range zss.length).map fun j => if j < k then .slice (some ⟨G j, 0, none⟩) (zss.getD j []).length (zss.getD j []).length else .slice none 0 0
theorem topL_len (G : Nat → Nat) (zss : List (List Int)) (k : Nat) : (topL G zss k).length = zss.length := by unfold topL; simp
theorem topL_get (G : Nat → Nat) (zss : List (List Int)) (k j : Nat) (hj : j < zss.length) : (topL G zss k)[j]? = some (if j < k then .slice (some ⟨G j, 0, none⟩) (zss.getD j []).length (zss.getD j []).length else .slice none 0 0) := by
  unfold topL; rw [List.getElem?_map, List.getElem?_range hj]; rfl
theorem topL_zero (G : Nat → Nat) (zss : List (List Int)) : topL G zss 0 = List.replicate zss.length (Value.slice none 0 0) := by
  refine List.ext_getElem? fun j => ?_
  by_cases hj : j < zss.length
  · rw [topL_get G zss 0 j hj, List.getElem?_replicate, if_pos hj]; rfl
  · rw [List.getElem?_eq_none (by rw [topL_len]; omega), List.getElem?_eq_none (by simp; omega)]
theorem topL_set (G : Nat → Nat) (zss : List (List Int)) (k g : Nat) {z : List Int} (hz : zss[k]? = some z) : (topL G zss k).set k (.slice (some ⟨g, 0, none⟩) z.length z.length) = topL (fun j => if j = k then g else G j) zss (k + 1) := by
  obtain ⟨hk, hz'⟩ := List.getElem?_eq_some_iff.1 hz
  refine List.ext_getElem? fun j => ?_
  by_cases hj : j < zss.length
  · rw [topL_get _ zss (k + 1) j hj]
    by_cases e : j = k
    · subst e
      rw [List.getElem?_set_self (by rw [topL_len]; exact hj), if_pos (by omega), if_pos rfl]
      simp [List.getD, hz]
    · rw [List.getElem?_set_ne (fun h => e h.symm), topL_get G zss k j hj]
      by_cases h1 : j < k
      · rw [if_pos h1, if_pos (by omega), if_neg e]
      · rw [if_neg h1, if_neg (by omega)]
  · rw [List.getElem?_eq_none (by rw [List.length_set, topL_len]; omega), List.getElem?_eq_none (by rw [topL_len]; omega)]

/-- The copied clauses, k of them: each in a block of its own. -/
structure Copied (w : World) (B b : Nat) (G : Nat → Nat) (zss : List (List Int)) (k : Nat) : Prop where
  base : B ≤ b
  top : w.ownsRow B 36 1 (.slice (some ⟨b, 0, none⟩) zss.length zss.length) zss.length (topL G zss k)
  rows : ∀ j z, j < k → zss[j]? = some z → w.heap[G j]? = some (.cells (z.map (Value.int .i64)).toArray 3 (0, 0))
  past : ∀ j, j < k → b < G j
  inj : ∀ i j, i < j → j < k → G i < G j
theorem Copied.stays {w w' : World} {B b : Nat} {G : Nat → Nat} {zss : List (List Int)} {k : Nat} (h : Copied w B b G zss k) (hb : ∀ i, B ≤ i → i < w.heap.size → w'.heap[i]? = w.heap[i]?) : Copied w' B b G zss k where
  base := h.base
  top := ownsRow_stays h.top hb
  rows := fun j z hj hz => by
    have h1 := h.rows j z hj hz
    exact (hb _ (by have := h.past j hj; have := h.base; omega) (Array.getElem?_eq_some_iff.1 h1).1).trans h1
  past := h.past
  inj := h.inj
theorem Copied.below {w w' : World} {B b : Nat} {G : Nat → Nat} {zss : List (List Int)} {k : Nat} (h : Copied w B b G zss k) (hb : Below w.heap.size w w') : Copied w' B b G zss k := h.stays fun i _ hi => hb.block i hi
theorem Copied.setCell {w : World} {B b : Nat} {G : Nat → Nat} {zss : List (List Int)} {k : Nat} (h : Copied w B b G zss k) {p : Addr} (hp : p.block < B) (x : Value) : Copied (w.setCell p x) B b G zss k :=
  h.stays fun i hi _ => Below.heap_setCell w p x i (by omega)
theorem Copied.weaken {w : World} {B B' b : Nat} {G : Nat → Nat} {zss : List (List Int)} {k : Nat} (h : Copied w B b G zss k) (hB : B' ≤ B) : Copied w B' b G zss k where
  base := Nat.le_trans hB h.base
  top := by
    refine ⟨h.top.1, ?_⟩
    rcases h.top.2 with h2 | ⟨g', cap, cur, h1, h2, h3⟩
    · exact .inl h2
    · exact .inr ⟨g', cap, cur, h1, by omega, h3⟩
  rows := h.rows
  past := h.past
  inj := h.inj
theorem block_ints {w : World} {g : Nat} {z : List Int} (h : w.heap[g]? = some (.cells (z.map (Value.int .i64)).toArray 3 (0, 0))) : IntsR w (some ⟨g, 0, none⟩) z := by
  refine .inr ⟨g, 0, rfl, (Array.getElem?_eq_some_iff.1 h).1, fun j hj => ?_⟩
  rw [cell_of_row w g (0 + j) _ _ _ h, Nat.zero_add, List.getElem?_toArray, List.getElem?_map, getD_some z 0 j hj]
  rfl
theorem Copied.readsR {w : World} {B b : Nat} {G : Nat → Nat} {zss : List (List Int)} (h : Copied w B b G zss zss.length) : RowsR .i64 w (some ⟨b, 0, none⟩) zss := by
  by_cases h0 : zss.length = 0
  · exact .inl h0
  refine .inr ⟨b, 0, rfl, (World.ownsRow.lt h.top b rfl).2, fun j hj => ?_⟩
  refine ⟨some ⟨G j, 0, none⟩, (zss.getD j []).length, ?_, KI.of (block_ints (h.rows j _ hj (getD_some zss [] j hj)))⟩
  rw [Nat.zero_add, World.ownsRow.cellAt h.top j (by omega), topL_get G zss _ j hj, if_pos hj]

/-- The state of Copy's loop. -/
structure CopyAt (w wr : World) (n : Int) (u : Value) (zss : List (List Int)) (G : Nat → Nat) (k : Nat) : Prop where
  f : Two wr w.heap.size (.int .i64 n) u
  res : Two wr (w.heap.size + 1) (.int .i64 0) (.slice none 0 0)
  copied : Copied wr (w.heap.size + 1 + 1) (w.heap.size + 1 + 1) G zss k
  below : Below w.heap.size w wr
theorem CopyAt.next {w wr w2 : World} {n : Int} {u : Value} {zss : List (List Int)} {G : Nat → Nat} {k : Nat} {z : List Int} {cs : Array Value} (h : CopyAt w wr n u zss G k) (hz : zss[k]? = some z)
    (hB : Below wr.heap.size ((wr.setCell ⟨w.heap.size + 1 + 1, k, none⟩ (.slice (some ⟨wr.heap.size, 0, none⟩) z.length z.length)).alloc (.cells cs 3)) w2)
    (hG : w2.heap[wr.heap.size]? = some (.cells (z.map (Value.int .i64)).toArray 3 (0, 0))) : CopyAt w w2 n u zss (fun j => if j = k then wr.heap.size else G j) (k + 1) := by
  have hlt := (World.ownsRow.lt h.copied.top _ rfl).2
  have hX : ∀ i, i < wr.heap.size → i ≠ w.heap.size + 1 + 1 → w2.heap[i]? = wr.heap[i]? := fun i hi hne => by
    rw [hB.block i hi, Below.heap_alloc _ _ _ (by simpa using hi)]
    exact Below.heap_setCell wr _ _ i hne
  have hs2 : wr.heap.size < w2.heap.size := (Array.getElem?_eq_some_iff.1 hG).1
  refine { f := (hX _ h.f.lt (by omega)).trans h.f, res := (hX _ h.res.lt (by omega)).trans h.res, copied := ?_, below := ?_ }
  · refine { base := Nat.le_refl _, top := ?_, rows := ?_, past := ?_, inj := ?_ }
    · have h1 := (World.ownsRow.stored h.copied.top k (.slice (some ⟨wr.heap.size, 0, none⟩) z.length z.length)).1
      rw [topL_set G zss k wr.heap.size hz] at h1
      refine ownsRow_stays' h1 (w' := w2) ?_
      rw [hB.block _ hlt, Below.heap_alloc _ _ _ (by simpa using hlt)]
    · intro j y hj hy
      by_cases e : j = k
      · subst e
        rw [hz] at hy; cases hy
        rw [if_pos rfl]; exact hG
      · rw [if_neg e]
        have h1 := h.copied.rows j y (by omega) hy
        have h2 := h.copied.past j (by omega)
        exact (hX _ (Array.getElem?_eq_some_iff.1 h1).1 (by omega)).trans h1
    · intro j hj
      by_cases e : j = k
      · simp only [if_pos e]; exact hlt
      · simp only [if_neg e]; exact h.copied.past j (by omega)
    · intro i j hij hj
      by_cases e : j = k
      · subst e
        simp only [if_true]
        rw [if_neg (by omega)]
        have hk := (List.getElem?_eq_some_iff.1 hz).1
        have h1 := h.copied.rows i _ hij (getD_some zss [] i (by omega))
        exact (Array.getElem?_eq_some_iff.1 h1).1
      · simp only [if_neg e]
        rw [if_neg (by omega)]
        exact h.copied.inj i j hij (by omega)
  · have h1 : Below w.heap.size w ((wr.setCell ⟨w.heap.size + 1 + 1, k, none⟩ (.slice (some ⟨wr.heap.size, 0, none⟩) z.length z.length)).alloc (.cells cs 3)) :=
      (h.below.setCell (p := ⟨w.heap.size + 1 + 1, k, none⟩) (by show w.heap.size ≤ w.heap.size + 1 + 1; omega) _).alloc (by have := h.below.size; simpa using this) _
    exact h1.trans (hB.mono h.below.size)
theorem CopyAt.start {w w1 : World} {n : Int} {u : Value} {zss : List (List Int)} (G : Nat → Nat) (hown : w1.ownsRow (w.heap.size + 1 + 1) 36 1 (.slice (some ⟨w.heap.size + 1 + 1, 0, none⟩) zss.length zss.length) zss.length (madeCells (Value.slice none 0 0).cells (zss.length * 1)).toList)
    (hg : ((w.alloc (.cells #[.int .i64 n, u] 24)).alloc (.cells #[.int .i64 0, .slice none 0 0] 24)).grownBy w1 none) : CopyAt w w1 n u zss G 0 where
  f := ((Two.new w (.int .i64 n) u).alloc _).grown hg (by simp)
  res := by
    have h := Two.new (w.alloc (.cells #[.int .i64 n, u] 24)) (.int .i64 0) (.slice none 0 0)
    have h2 := h.grown hg (by simp)
    simpa using h2
  copied := { base := Nat.le_refl _, top := by
                have e : (madeCells (Value.slice none 0 0).cells (zss.length * 1)).toList = topL G zss 0 := by
                  rw [topL_zero, Nat.mul_one]; exact toList_madeCells_one _ _
                rw [e] at hown; exact hown
              rows := fun j z hj => by omega, past := fun j hj => by omega, inj := fun i j _ hj => by omega }
  below := (((Below.refl _ _).alloc (Nat.le_refl _) _).alloc (by simp) _).grown hg (by simp; omega) (fun j e => by cases e)
theorem splice_all {α : Type} {L cs : List α} (h : cs.length = L.length) : splice L 0 cs = cs := by
  unfold splice; rw [List.take_zero, List.nil_append, Nat.zero_add, h, List.drop_length, List.append_nil]

set_option maxRecDepth 100000 in
set_option maxHeartbeats 4000000 in
theorem copy_any (n : Int) (a : Option Addr) (c : Nat) (zss : List (List Int)) (w : World) (hm : zss.length ≤ 1000) (hA : ∀ z ∈ zss, z.length ≤ 1000) (h : RowsR .i64 w a zss) :
    Calls Try.prog 17 #[.agg #[.int .i64 n, .slice a zss.length c]] w fun e w' => ∃ G b, e = .returned (.agg #[.int .i64 n, .slice (some ⟨b, 0, none⟩) zss.length zss.length]) ∧ Copied w' w.heap.size b G zss zss.length ∧ Below w.heap.size w w' := by
  obtain ⟨i0, hi, hz0, hz1, hz2⟩ := info_parts Try.info3
  obtain ⟨j0, hj, hy0, hy1, hy2⟩ := info_parts Try.info36
  have HA := Lib.hid hA
  have HR := Lib.hid h
  clear hA h
  have hs0 : ((w.alloc (.cells #[.int .i64 n, .slice a zss.length c] 24)).alloc (.cells #[.int .i64 0, .slice none 0 0] 24)).heap.size = w.heap.size + 1 + 1 := by simp
  have HS0 := Lib.hid hs0
  clear hs0
  have HCL : Hid (∀ w1, ((w.alloc (.cells #[.int .i64 n, .slice a zss.length c] 24)).alloc (.cells #[.int .i64 0, .slice none 0 0] 24)).grownBy w1 none → w1.cell? ⟨w.heap.size, 1, none⟩ = some (.slice a zss.length c)) := fun w1 hg =>
    Two.c1 (x := .int .i64 n) (((Two.new w (.int .i64 n) (.slice a zss.length c)).alloc _).grown hg (by simp))
  go_enter Try.func17, Try.ntmps17
  go_wp2_with (at_make; refine wpList_make_full _ rfl _ _ 22 rfl (w.heap.size + 1 + 1) 36 j0 (.slice none 0 0) 1 Try.underlying22 hj hy0 hy1 .i64 .i64 _ _ zss.length rfl rfl rfl rfl (by rw [hy2]; omega) (by unfold maxLen; omega) (by simp) ?_; intro w1 hown0 hgrow0; have c1 := HCL.out w1 hgrow0)
  have hown1 : w1.ownsRow (w.heap.size + 1 + 1) 36 1 (.slice (some ⟨w.heap.size + 1 + 1, 0, none⟩) zss.length zss.length) zss.length (madeCells (Value.slice none 0 0).cells (zss.length * 1)).toList := by
    rw [HS0.out] at hown0; exact hown0
  have HC0 := Lib.hid (CopyAt.start (fun _ => 0) hown1 hgrow0)
  clear hown0 hown1 hgrow0 HS0 c1
  go_loopw [13] (fun i wr => ∃ (k : Nat) (G : Nat → Nat), k ≤ zss.length ∧ i = .int .i64 k ∧ Hid (CopyAt w wr n (.slice a zss.length c) zss G k)) (fun i _ => zss.length - (intOf i).toNat)
  case atStart => exact ⟨0, fun _ => 0, Nat.zero_le _, rfl, HC0.out⟩
  case round =>
    clear HC0
    obtain ⟨k, G, hk, rfl, HC⟩ := hrel
    by_cases hlt : k < zss.length
    · obtain ⟨b, off, aj, cj, z, rfl, hbs, HZ, hcw, HK⟩ := HR.out.at hlt
      have hc := (HC.out.below.cell (p := ⟨b, off + k, none⟩) hbs).trans hcw
      have hzl := HA.out z (List.mem_of_getElem? HZ.out)
      clear hcw
      have hbl : w.heap.size + 1 + 1 < wr.heap.size := (World.ownsRow.lt HC.out.copied.top _ rfl).2
      have hfr : wr.frozen? ⟨w.heap.size + 1 + 1, k, none⟩ = false := World.ownsRow.frozenAt HC.out.copied.top k
      have hcb : wr.cell? ⟨w.heap.size + 1 + 1, k, none⟩ = some (.slice none 0 0) := by
        rw [World.ownsRow.cellAt HC.out.copied.top k (by omega), topL_get G zss k k hlt, if_neg (by omega)]
      have HX : Hid ((((wr.setCell ⟨w.heap.size + 1 + 1, k, none⟩ (.slice (some ⟨wr.heap.size, 0, none⟩) z.length z.length)).alloc (.cells (madeCells #[.int .i64 0] z.length) 3)).heap[wr.heap.size]?) = some (.cells (madeCells #[.int .i64 0] z.length).toList.toArray 3 (0, 0))) := by
        have h1 := heap_alloc_new (wr.setCell ⟨w.heap.size + 1 + 1, k, none⟩ (.slice (some ⟨wr.heap.size, 0, none⟩) z.length z.length)) (.cells (madeCells #[.int .i64 0] z.length) 3)
        have h2 : (wr.setCell ⟨w.heap.size + 1 + 1, k, none⟩ (.slice (some ⟨wr.heap.size, 0, none⟩) z.length z.length)).heap.size = wr.heap.size := by simp
        rw [h2] at h1
        unfold Hid; simpa using h1
      have HP : Hid (0 < (z.map (Value.int .i64)).length → ∃ ad, aj = some ad ∧ ∀ j v, (z.map (Value.int .i64))[j]? = some v → ((wr.setCell ⟨w.heap.size + 1 + 1, k, none⟩ (.slice (some ⟨wr.heap.size, 0, none⟩) z.length z.length)).alloc (.cells (madeCells #[.int .i64 0] z.length) 3)).cell? (ad.add j) = some v) := by
        intro h0
        have hbx : Below w.heap.size w ((wr.setCell ⟨w.heap.size + 1 + 1, k, none⟩ (.slice (some ⟨wr.heap.size, 0, none⟩) z.length z.length)).alloc (.cells (madeCells #[.int .i64 0] z.length) 3)) :=
          (HC.out.below.setCell (p := ⟨w.heap.size + 1 + 1, k, none⟩) (by show w.heap.size ≤ w.heap.size + 1 + 1; omega) _).alloc (by have := HC.out.below.size; simpa using this) _
        rcases HK.out.below hbx with h1 | ⟨b', off', ha, _, hcc⟩
        · simp at h0; omega
        · refine ⟨_, ha, fun j v hv => ?_⟩
          have hjl : j < z.length := by have := (List.getElem?_eq_some_iff.1 hv).1; simpa using this
          rw [Addr.add_lit, hcc j hjl]
          rw [List.getElem?_map, getD_some z 0 j hjl] at hv
          exact hv
      have HE : Hid ((z.map (Value.int .i64)).length = Nat.min z.length z.length ∧ 0 + (z.map (Value.int .i64)).length ≤ (madeCells #[.int .i64 0] z.length).toList.length ∧ ∀ v ∈ z.map (Value.int .i64), v.oneCell' = true) := by
        refine ⟨by simp, by simp [madeCells], fun v hv => ?_⟩
        obtain ⟨x, _, rfl⟩ := List.mem_map.1 hv
        rfl
      have HSP : Hid (splice (madeCells #[.int .i64 0] z.length).toList 0 (z.map (Value.int .i64)) = z.map (Value.int .i64)) := splice_all (by simp [madeCells])
      have HN := fun w2 => Lib.hid (CopyAt.next (w2 := w2) (cs := madeCells #[.int .i64 0] z.length) HC.out HZ.out)
      go_wp2_with (first | (at_make; refine wpList_make_row _ rfl _ _ 36 rfl 3 i0 (.int .i64 0) Try.underlying36 hi hz0 hz1 rfl .i64 .i64 z.length rfl rfl (by rw [hz2]; omega) (by omega) ?_) | (refine wpList_copy_splice (o := ⟨some 29, _, _, _, _, _⟩) rfl (.tmp 27) (.tmp 28) 36 36 rfl 3 Try.underlying36 Try.size3 _ _ _ _ _ _ rfl rfl wr.heap.size 0 _ 3 HX.out (z.map (Value.int .i64)) HE.out.1 (fun h0 => ⟨rfl, HP.out h0⟩) HE.out.2.1 HE.out.2.2 wr.heap.size _ (Below.refl _ _) (Nat.le_refl _) ?_; intro w2 HG2 hB2))
      rw [HSP.out] at HG2
      have HC2 := Lib.hid ((HN w2).out hB2 HG2.out)
      clear HG2 hB2 HN HX HP HE HSP
      go_roundw
      case rel => exact ⟨k + 1, _, by omega, by go_num, HC2⟩
      case measure => simp [intOf]; omega
    · obtain rfl : k = zss.length := by omega
      have hf := HC.out.f
      have hr := HC.out.res
      have c0 := hf.c0
      have r0 := hr.c0
      have r1 := hr.c1
      have f0 := hr.free 0
      have f1 := hr.free 1
      have hT := (hr.set0 (.int .i64 n)).set1 (.slice (some ⟨w.heap.size + 1 + 1, 0, none⟩) zss.length zss.length)
      have s0 := hT.c0
      have s1 := hT.c1
      have HCF := Lib.hid ((HC.out.copied.setCell (p := ⟨w.heap.size + 1, 0, none⟩) (by simp) (.int .i64 n)).setCell (p := ⟨w.heap.size + 1, 1, none⟩) (by simp) (.slice (some ⟨w.heap.size + 1 + 1, 0, none⟩) zss.length zss.length))
      have HBF := Lib.hid ((HC.out.below.setCell (p := ⟨w.heap.size + 1, 0, none⟩) (by simp) (.int .i64 n)).setCell (p := ⟨w.heap.size + 1, 1, none⟩) (by simp) (.slice (some ⟨w.heap.size + 1 + 1, 0, none⟩) zss.length zss.length))
      clear hf hr hT
      go_wp2
      exact bodyPost_ret (v := .agg #[.int .i64 n, .slice (some ⟨w.heap.size + 1 + 1, 0, none⟩) zss.length zss.length]) (by simp [results, Try.results17, go_sem, s0, s1]) rfl ⟨_, _, rfl, HCF.out.weaken (by omega), HBF.out⟩
end Go.Proofs.Ytnkemkgepipjcaa
