/-
  Room; negatives; learnAll; left.
  replace: a clause watches another literal in place of one that is false.
  leave: those that watch a literal that became false are gone through.
  leave.
  The base between clauses, plain: it is entered with the negatives of a clause, and left; a clause is added.
  run; forget.
-/
import Derived.Test.YtbljkbdbiceokaaRupC
import Derived.Test.YtbljkbdbiceokaaPropM
import Derived.Test.YtbljkbdbiceokaaRupD
import Derived.StillTailTactics
import Derived.Test.YtbljkbdbiceokaaPropP
namespace Go.Proofs.Ytbljkbdbiceokaa
open Go.RowKit Go.Lib
open Go.RowKit (Below)

/-! RupE -/
section
variable {G : List (List Int)} {A R : List Int} {n : Nat} {S : Sb} {cur : Int} {todo : List Int}
/-- The trail has at most as many literals as there are variables. -/
theorem Jnv.room (J : Jnv G A n R S cur todo) : S.trail.length ≤ n := by
  have hnd : (S.trail.map Int.natAbs).Nodup := by
    rw [List.nodup_iff_pairwise_ne, List.pairwise_map]
    refine List.Pairwise.imp_of_mem ?_ (List.nodup_iff_pairwise_ne.1 J.tnd)
    intro a b ha hb hne he
    have h1 := ((J.tr a).2 ha).2
    have h2 := ((J.tr b).2 hb).2
    unfold kat at h1 h2
    rw [he] at h1
    exact hne (h1.symm.trans h2)
  have h1 := few_of_nodup (n + 1) (0 :: S.trail.map Int.natAbs) (List.nodup_cons.2 ⟨fun h => by
    obtain ⟨y, hy, h0⟩ := List.mem_map.1 h
    exact ((J.tr y).2 hy).1 (by omega), hnd⟩) (fun y hy => by
      rcases List.mem_cons.1 hy with rfl | hy
      · omega
      · obtain ⟨z, hz, rfl⟩ := List.mem_map.1 hy
        have := J.knle ((J.tr z).2 hz); omega)
  simp at h1
  omega
/-- Each literal is watched by at most as many clauses as there are. -/
theorem Jnv.few (J : Jnv G A n R S cur todo) (x : Int) : (S.watch x).length ≤ S.cls.length := by
  have hz : ∀ z ∈ S.watch x, 0 ≤ z ∧ z.toNat < S.cls.length := fun z hz => by
    obtain ⟨j, e, rfl, he, _⟩ := J.wi x z hz
    have := (List.getElem?_eq_some_iff.1 he).1
    exact ⟨by omega, by simpa using this⟩
  have hnd : ((S.watch x).map Int.toNat).Nodup := by
    rw [List.nodup_iff_pairwise_ne, List.pairwise_map]
    refine List.Pairwise.imp_of_mem ?_ (List.nodup_iff_pairwise_ne.1 (J.wnd x))
    intro a b ha hb hne he
    have := hz a ha
    have := hz b hb
    omega
  have := few_of_nodup S.cls.length ((S.watch x).map Int.toNat) hnd (fun y hy => by
    obtain ⟨z, hz', rfl⟩ := List.mem_map.1 hy
    exact (hz z hz').2)
  simpa using this
end

def negs (c : List Int) : List Int := c.map fun x => -x
theorem negs_len (c : List Int) : (negs c).length = c.length := by unfold negs; simp
theorem mem_negs {c : List Int} {x : Int} : x ∈ negs c ↔ -x ∈ c := by
  unfold negs
  rw [List.mem_map]
  constructor
  · rintro ⟨y, hy, rfl⟩; rwa [Int.neg_neg]
  · intro h; exact ⟨_, h, by omega⟩

theorem blkSet {w : World} {b : Nat} {t : TypeId} {xs : List Int} (h : Blk w b t (xs.map (Value.int .i64))) (i : Nat) (x : Int) : Blk (w.setCell ⟨b, i, none⟩ (.int .i64 x)) b t ((xs.set i x).map (Value.int .i64)) := by
  have := h.set i (.int .i64 x)
  rw [← List.map_set] at this
  exact this
theorem ints_of_blk {w : World} {b : Nat} {t : TypeId} {xs : List Int} (h : Blk w b t (xs.map (Value.int .i64))) : IntsR w (some ⟨b, 0, none⟩) xs := by
  refine .inr ⟨b, 0, rfl, h.lt, fun j hj => ?_⟩
  rw [Nat.zero_add]
  refine h.cell ?_
  rw [List.getElem?_map, getD_some xs 0 j hj]; rfl

set_option maxHeartbeats 1000000 in
theorem negatives_any (a : Option Addr) (c : Nat) (xs : List Int) (w : World) (hl : xs.length ≤ 1000000) (hr : ∀ x ∈ xs, -1000000 ≤ x ∧ x ≤ 1000000) (h : IntsR w a xs) :
    Calls Try.prog 32 #[.slice a xs.length c] w fun e w' => ∃ b, e = .returned (.slice (some ⟨b, 0, none⟩) xs.length xs.length) ∧ w.heap.size ≤ b ∧ b < w'.heap.size ∧ IntsR w' (some ⟨b, 0, none⟩) (negs xs) ∧ Below w.heap.size w w' := by
  have hk1 := fun W => made_int xs.length W (by omega)
  have HX := Lib.hid h
  have HR := Lib.hid hr
  have hlI : (xs.length : Int) ≤ 1000000 := by omega
  have hB0 : Blk (w.alloc (.cells (madeCells #[.int .i64 0] xs.length) 3)) w.heap.size 3 ((List.replicate xs.length 0).map (Value.int .i64)) := by
    have : (madeCells #[Value.int .i64 0] xs.length) = ((List.replicate xs.length (0 : Int)).map (Value.int .i64)).toArray := by
      rw [← Array.toList_inj, toList_madeCells_one, List.toList_toArray, List.map_replicate]
    rw [this]
    exact Blk.new w _ _
  have HB0 := Lib.hid hB0
  clear h hr hl hB0
  go_enter Try.func32, Try.ntmps32
  go_wp2
  go_loopw [11] (fun i wr => ∃ k : Nat, i = .int .i64 k ∧ k ≤ xs.length ∧ Hid (Blk wr w.heap.size 3 (((negs xs).take k ++ List.replicate (xs.length - k) 0).map (Value.int .i64))) ∧ Hid (Below w.heap.size w wr)) (fun i _ => xs.length - (intOf i).toNat)
  case atStart => exact ⟨0, rfl, Nat.zero_le _, by unfold Hid; rw [List.take_zero, List.nil_append, Nat.sub_zero]; exact HB0.out, boxed _ _⟩
  case round =>
    obtain ⟨k, rfl, hk, HB, HW⟩ := hrel
    by_cases hlt : k < xs.length
    · obtain ⟨b, off, x, rfl, hx, hcx⟩ := (HX.out.below HW.out).at hlt
      have hxr := HR.out x (List.mem_of_getElem? hx.out)
      have hx1 := hxr.1
      have hx2 := hxr.2
      have hcell : wr.cell? ⟨w.heap.size, k, none⟩ = some (.int .i64 0) := by
        refine HB.out.cell ?_
        rw [List.getElem?_map, List.getElem?_append_right (by rw [List.length_take, negs_len]; omega)]
        rw [List.length_take, negs_len, Nat.min_eq_left hk, Nat.sub_self, List.getElem?_replicate, if_pos (by omega)]; rfl
      have hfree := HB.out.free k
      have hset := blkSet HB.out k (-x)
      have hn : (negs xs)[k]? = some (-x) := by unfold negs; rw [List.getElem?_map, hx.out]; rfl
      have he : ((negs xs).take k ++ List.replicate (xs.length - k) 0).set k (-x) = (negs xs).take (k + 1) ++ List.replicate (xs.length - (k + 1)) 0 := by
        rw [take_snoc _ _ _ hn, List.set_append, if_neg (by rw [List.length_take, negs_len]; omega), List.length_take, negs_len, Nat.min_eq_left hk, Nat.sub_self]
        have : xs.length - k = (xs.length - (k + 1)) + 1 := by omega
        rw [this, List.replicate_succ, List.set_cons_zero]
        simp
      rw [he] at hset
      have HS := Lib.hid hset
      have HBW := Lib.hid (HW.out.setCell (p := ⟨w.heap.size, k, none⟩) (Nat.le_refl _) (.int .i64 (-x)))
      clear hset he hn hxr
      go_wp2
      go_roundw
      case rel => exact ⟨k + 1, by go_num, by omega, HS, HBW⟩
      case measure => simp [intOf]; omega
    · have hkl : k = xs.length := by omega
      have HF : Hid (IntsR wr (some ⟨w.heap.size, 0, none⟩) (negs xs)) := by
        have h1 := HB.out
        rw [hkl, Nat.sub_self, List.replicate_zero, List.append_nil, List.take_of_length_le (by rw [negs_len]; omega)] at h1
        exact ints_of_blk h1
      have HLT := Lib.hid HB.out.lt
      go_wp2
      go_ret
      exact ⟨_, rfl, Nat.le_refl _, HLT.out, HF.out, HW.out⟩

section
variable {B : Nat} {m : Mb} {f : Nat → Value} {tv cv : Value} {fl : Bool} {vs : List Value} {S : Sb} {w : World}
set_option maxHeartbeats 1000000 in
theorem blearnAll_any (h : PB B m f tv cv fl vs S w) {G : List (List Int)} {R xs : List Int} (J : Jnv G xs m.n R S 0 []) {a : Option Addr} {c : Nat} (hX : IntsR w a xs) (hfor : ∀ p, a = some p → p.block < w.heap.size ∧ Foreign m f tv cv p.block)
    (hl : xs.length ≤ maxLen) (hok : ∀ x ∈ xs, x ≠ 0 ∧ x.natAbs ≤ m.n) (hnn : m.n ≤ 1000000) :
    Calls Try.prog 75 #[.pointer (some ⟨m.pb, 0, none⟩), .slice a xs.length c] w fun e w' => ∃ b S', e = .returned (.bool b) ∧ Hid (∃ tv', PB B m f tv' cv fl vs S' w') ∧ Jnv G xs m.n R S' 0 [] ∧ S'.cls = S.cls ∧ S'.watch = S.watch ∧ S'.looked = S.looked ∧
      (b = true → ∀ x ∈ xs, S'.kn x) ∧ (b = false → Fails G xs) ∧ Below B w w' := by
  have HP := Lib.hid h
  have HJ := Lib.hid J
  have HX := Lib.hid hX
  have HF := Lib.hid hfor
  have HNN := Lib.hid hnn
  have HOK := Lib.hid hok
  have hmI : (xs.length : Int) ≤ 9223372036854775807 := by have : maxLen = 9223372036854775807 := rfl; omega
  clear h J hX hfor hnn hok hl
  go_enter Try.func75, Try.ntmps75
  go_wp2
  go_loopw [9] (fun i wr => ∃ (k : Nat) (S1 : Sb), i = .int .i64 k ∧ k ≤ xs.length ∧ Hid (∃ tv1, PB B m f tv1 cv fl vs S1 wr ∧ Spared w wr m f tv cv tv1) ∧ Hid (Jnv G xs m.n R S1 0 [] ∧ S1.cls = S.cls ∧ S1.watch = S.watch ∧ S1.looked = S.looked ∧ ∀ j x, j < k → xs[j]? = some x → S1.kn x) ∧ Hid (Below B w wr)) (fun i _ => xs.length - (intOf i).toNat)
  case atStart => exact ⟨0, S, rfl, Nat.zero_le _, ⟨_, HP.out, Spared.refl _ _ _ _ _⟩, ⟨HJ.out, rfl, rfl, rfl, fun j x hj => by omega⟩, Below.refl _ _⟩
  case round =>
    obtain ⟨k, S1, rfl, hk, HPE, HIE, HB1⟩ := hrel
    obtain ⟨tv1, hP1, hS1⟩ := HPE.out
    by_cases hlt : k < xs.length
    · obtain ⟨b, off, x, rfl, hx, hcx⟩ := (HX.out.stays HB1.out.size fun p hp => (hS1 p.block (HF.out p hp).1 (HF.out p hp).2).1).at hlt
      have hxm : x ∈ xs := List.mem_of_getElem? hx.out
      have hxo := HOK.out x hxm
      have hw := blearn_any hP1 hxo.2 HNN.out (fun _ => by have := HIE.out.1.room; have := HNN.out; omega)
      have hstep := HIE.out.1.learn hxo.1 hxo.2 (.assume hxm)
      obtain ⟨bb, hbb⟩ : ∃ bb, (learnB S1 x).2 = bb := ⟨_, rfl⟩
      rw [hbb] at hw hstep
      have HW := Lib.hid hw
      have HST := Lib.hid hstep
      have HSP := Lib.hid hS1
      clear hP1 HPE hxm hxo hw hstep hbb hS1
      go_wp2_with fail
      refine HW.out.mono ?_
      rintro e' w' ⟨rfl, ⟨tv4, hP4, hS4⟩, hB4⟩
      have HP4 : Hid (∃ tv1, PB B m f tv1 cv fl vs (learnB S1 x).1 w' ∧ Spared w w' m f tv cv tv1) := ⟨_, hP4, HSP.out.trans HB1.out.size hS4⟩
      have HB4 := Lib.hid (HB1.out.trans hB4)
      clear hP4 hB4 hcx HW hS4
      cases bb with
      | true =>
        have HI4 : Hid (Jnv G xs m.n R (learnB S1 x).1 0 [] ∧ (learnB S1 x).1.cls = S.cls ∧ (learnB S1 x).1.watch = S.watch ∧ (learnB S1 x).1.looked = S.looked ∧ ∀ j y, j < k + 1 → xs[j]? = some y → (learnB S1 x).1.kn y) := by
          obtain ⟨g1, g2, g3, g4, g5, g6, g7⟩ := HST.out
          obtain ⟨k1, k2, k3, k4, k5⟩ := HIE.out
          refine ⟨g1, g5.trans k2, g6.trans k3, g7.trans k4, fun j y hj hy => ?_⟩
          by_cases hjk : j = k
          · subst hjk
            rw [hx.out] at hy
            cases hy
            exact g3 rfl
          · exact g2 y (k5 j y (by omega) hy)
        clear HST
        go_wp2
        go_roundw
        case rel => exact ⟨k + 1, _, by go_num, by omega, HP4, HI4, HB4⟩
        case measure => simp [intOf]; omega
      | false =>
        have HFL := Lib.hid HST.out
        clear HST
        go_wp2
        go_ret
        obtain ⟨g1, g2, g3, g4, g5, g6, g7⟩ := HFL.out
        obtain ⟨k1, k2, k3, k4, k5⟩ := HIE.out
        obtain ⟨t9, h9, _⟩ := HP4.out
        exact ⟨false, _, rfl, ⟨t9, h9⟩, g1, g5.trans k2, g6.trans k3, g7.trans k4, (fun h => by cases h), fun _ => g4 (by trivial), HB4.out⟩
    · have hkl : k = xs.length := by omega
      have HIF : Hid (∀ x ∈ xs, S1.kn x) := by
        intro x hx
        obtain ⟨j, hj⟩ := List.mem_iff_getElem?.1 hx
        exact HIE.out.2.2.2.2 j x (by rw [hkl]; exact (List.getElem?_eq_some_iff.1 hj).1) hj
      have HPE2 := Lib.hid hP1
      clear hP1 HPE hS1
      go_wp2
      go_ret
      obtain ⟨k1, k2, k3, k4, k5⟩ := HIE.out
      exact ⟨true, S1, rfl, ⟨_, HPE2.out⟩, k1, k2, k3, k4, fun _ => HIF.out, (fun h => by cases h), HB1.out⟩

theorem quietRefl (w : World) : QuietTo w w := ⟨0, by simp [World.drewN]⟩
/-- What left finds: 0 where there is none. -/
def LeftPost (S : Sb) (c : List Int) (x y : Int) : Prop :=
  (x = 0 ∧ y = 0 ∧ ∀ z ∈ c, S.kn (-z)) ∨ (x ≠ 0 ∧ y = 0 ∧ x ∈ c ∧ ¬ S.kn (-x) ∧ ∀ z ∈ c, z = x ∨ S.kn (-z)) ∨ (x ≠ 0 ∧ y ≠ 0 ∧ x ∈ c ∧ y ∈ c ∧ x ≠ y ∧ ¬ S.kn (-x) ∧ ¬ S.kn (-y))
/-- The literals so far: none is left, or this one. -/
def LeftSo (S : Sb) (c : List Int) (x : Int) (k : Nat) : Prop :=
  (x = 0 ∨ (x ∈ c ∧ ¬ S.kn (-x))) ∧ ∀ j z, j < k → c[j]? = some z → z = x ∨ S.kn (-z)
set_option maxRecDepth 100000 in
set_option maxHeartbeats 1000000 in
theorem left_any (h : PB B m f tv cv fl vs S w) {c : List Int} {a : Option Addr} {cap : Nat} (hX : IntsR w a c) (hl : c.length ≤ maxLen) (hok : ∀ x ∈ c, x ≠ 0 ∧ x.natAbs ≤ m.n) (hnn : m.n ≤ 1000000) :
    Calls Try.prog 64 #[.pointer (some ⟨m.pb, 0, none⟩), .slice a c.length cap] w fun e w' => ∃ x y, e = .returned (.tuple #[.int .i64 x, .int .i64 y]) ∧ LeftPost S c x y ∧ QuietTo w w' := by
  have HP := Lib.hid h
  have HX := Lib.hid hX
  have HNN := Lib.hid hnn
  have HOK := Lib.hid hok
  have hmI : (c.length : Int) ≤ 9223372036854775807 := by have : maxLen = 9223372036854775807 := rfl; omega
  clear h hX hnn hok hl
  go_enter Try.func64, Try.ntmps64
  go_wp2
  go_loopw [6, 11] (fun fi i wr => ∃ (k : Nat) (x : Int), fi = .int .i64 x ∧ i = .int .i64 k ∧ k ≤ c.length ∧ Hid (LeftSo S c x k) ∧ Hid (QuietTo w wr)) (fun _ i _ => c.length - (intOf i).toNat)
  case atStart => exact ⟨0, 0, rfl, rfl, Nat.zero_le _, ⟨.inl rfl, fun j z hj => by omega⟩, quietRefl _⟩
  case round =>
    obtain ⟨k, x, rfl, rfl, hk, HL, HQ⟩ := hrel
    have HPr := Lib.hid (HP.out.below (quietBelow HQ.out _))
    by_cases hlt : k < c.length
    · obtain ⟨b, off, z, rfl, hz, hcz⟩ := (HX.out.below (quietBelow HQ.out _)).at hlt
      have hzo := HOK.out z (List.mem_of_getElem? hz.out)
      have hz1 : -1000000 ≤ z := by have := HNN.out; omega
      have hz2 : z ≤ 1000000 := by have := HNN.out; omega
      have HZO := Lib.hid hzo
      by_cases hzx : z = x
      · have e1 : (z == x) = true := by simp [hzx]
        have HL2 : Hid (LeftSo S c x (k + 1)) := by
          refine ⟨HL.out.1, fun j y hj hy => ?_⟩
          by_cases hjk : j = k
          · subst hjk; rw [hz.out] at hy; cases hy; exact .inl hzx
          · exact HL.out.2 j y (by omega) hy
        clear hzx hzo HL
        go_wp2
        go_roundw
        case rel => exact ⟨k + 1, x, rfl, by go_num, by omega, HL2, HQ⟩
        case measure => simp [intOf]; omega
      · have e1 : (z == x) = false := by simp [hzx]
        have hkat : kat S.known (-z) = kat S.known z := by unfold kat; rw [Int.natAbs_neg]
        by_cases hkn : S.kn (-z)
        · have HH := Lib.hid (rholds_is (x := -z) (b := true) HPr.out (by rw [Int.natAbs_neg]; exact hzo.2) HNN.out (by simpa using hkn.2))
          have HL2 : Hid (LeftSo S c x (k + 1)) := by
            refine ⟨HL.out.1, fun j y hj hy => ?_⟩
            by_cases hjk : j = k
            · subst hjk; rw [hz.out] at hy; cases hy; exact .inr hkn
            · exact HL.out.2 j y (by omega) hy
          clear hzx hzo HL hkat hkn
          go_wp2_with fail
          refine HH.out.mono ?_
          rintro e w' ⟨rfl, hq⟩
          have HQ2 : Hid (QuietTo w w') := by
            obtain ⟨q1, h1⟩ := HQ.out
            obtain ⟨q2, h2⟩ := hq
            exact ⟨q1 + q2, by rw [h2, h1]; simp [World.drewN, Nat.add_assoc]⟩
          clear hq
          go_wp2
          go_roundw
          case rel => exact ⟨k + 1, x, rfl, by go_num, by omega, HL2, HQ2⟩
          case measure => simp [intOf]; omega
        · have HH := Lib.hid (rholds_is (x := -z) (b := false) HPr.out (by rw [Int.natAbs_neg]; exact hzo.2) HNN.out (by
            rw [decide_eq_false_iff_not]; intro e; exact hkn ⟨by omega, e⟩))
          have HKN := Lib.hid hkn
          have HZX := Lib.hid hzx
          by_cases hx0 : x = 0
          · have e2 : (x != 0) = false := by simp [hx0]
            have HL2 : Hid (LeftSo S c z (k + 1)) := by
              refine ⟨.inr ⟨List.mem_of_getElem? hz.out, hkn⟩, fun j y hj hy => ?_⟩
              by_cases hjk : j = k
              · subst hjk; rw [hz.out] at hy; cases hy; exact .inl rfl
              · rcases HL.out.2 j y (by omega) hy with h1 | h1
                · exact absurd (h1.trans hx0) (HOK.out y (List.mem_of_getElem? hy)).1
                · exact .inr h1
            clear hzx hzo HL hkat hkn hx0
            go_wp2_with fail
            refine HH.out.mono ?_
            rintro e w' ⟨rfl, hq⟩
            have HQ2 : Hid (QuietTo w w') := by
              obtain ⟨q1, h1⟩ := HQ.out
              obtain ⟨q2, h2⟩ := hq
              exact ⟨q1 + q2, by rw [h2, h1]; simp [World.drewN, Nat.add_assoc]⟩
            clear hq
            go_wp2
            go_roundw
            case rel => exact ⟨k + 1, z, rfl, by go_num, by omega, HL2, HQ2⟩
            case measure => simp [intOf]; omega
          · have e2 : (x != 0) = true := by simp [hx0]
            have HFIN : Hid (LeftPost S c x z) := by
              obtain ⟨h1, h2⟩ := HL.out.1.resolve_left hx0
              exact .inr (.inr ⟨hx0, hzo.1, h1, List.mem_of_getElem? hz.out, fun e => hzx e.symm, h2, hkn⟩)
            clear hzx hzo HL hkat hkn hx0
            go_wp2_with fail
            refine HH.out.mono ?_
            rintro e w' ⟨rfl, hq⟩
            have HQ2 : Hid (QuietTo w w') := by
              obtain ⟨q1, h1⟩ := HQ.out
              obtain ⟨q2, h2⟩ := hq
              exact ⟨q1 + q2, by rw [h2, h1]; simp [World.drewN, Nat.add_assoc]⟩
            clear hq
            go_wp2
            go_ret2
            exact ⟨x, z, rfl, HFIN.out, HQ2.out⟩
    · have hkl : k = c.length := by omega
      have HFIN : Hid (LeftPost S c x 0) := by
        have hall : ∀ z ∈ c, z = x ∨ S.kn (-z) := fun z hz => by
          obtain ⟨j, hj⟩ := List.mem_iff_getElem?.1 hz
          exact HL.out.2 j z (by rw [hkl]; exact (List.getElem?_eq_some_iff.1 hj).1) hj
        by_cases hx0 : x = 0
        · exact .inl ⟨hx0, rfl, fun z hz => (hall z hz).resolve_left fun e => (HOK.out z hz).1 (e.trans hx0)⟩
        · obtain ⟨h1, h2⟩ := HL.out.1.resolve_left hx0
          exact .inr (.inl ⟨hx0, rfl, h1, h2, hall⟩)
      go_wp2
      go_ret2
      exact ⟨x, 0, rfl, HFIN.out, HQ.out⟩
end

/-! RupF -/
theorem set_sameG {α : Type} (l : List α) (n : Nat) (e : α) (h : l[n]? = some e) : l.set n e = l := by
  induction l generalizing n with
  | nil => simp at h
  | cons x l ih =>
    cases n with
    | zero => simp at h; subst h; simp
    | succ n => simp at h; simp [ih n h]
theorem set_getG {α : Type} (l : List α) (n : Nat) (e v : α) (h : l[n]? = some e) : (l.set n v)[n]? = some v := by
  rw [List.getElem?_set_self (List.getElem?_eq_some_iff.1 h).1]

section
variable {B : Nat} {m : Mb} {f : Nat → Value} {tv : Value} {fl : Bool} {vs : List Value} {S : Sb} {w : World} {g L cap n : Nat} {e : Cb}
theorem PB.setN (h : PB B m f tv (.slice (some ⟨g, 0, none⟩) L cap) fl vs S w) (hn : S.cls[n]? = some e) (k : Nat) :
    PB B m f tv (.slice (some ⟨g, 0, none⟩) L cap) fl (vs.set (n * 4 + 3) (.int .i64 k)) { S with cls := S.cls.set n { e with next := k } } (w.setCell ⟨g, n * 4 + 3, none⟩ (.int .i64 k)) ∧ Below B w (w.setCell ⟨g, n * 4 + 3, none⟩ (.int .i64 k)) := by
  obtain ⟨a, c, h1, h2, h3, h3', h4⟩ := h.cvs n e hn
  have hl := (List.getElem?_eq_some_iff.1 h3').1
  exact h.clsSet (k := 3) (e' := { e with next := k }) hn (by omega) (.int .i64 k) ⟨a, c, by rw [List.getElem?_set_ne (by omega)]; exact h1, by rw [List.getElem?_set_ne (by omega)]; exact h2, by rw [List.getElem?_set_ne (by omega)]; exact h3, by rw [List.getElem?_set_self hl], h4⟩
theorem PB.setAB (h : PB B m f tv (.slice (some ⟨g, 0, none⟩) L cap) fl vs S w) (hn : S.cls[n]? = some e) (u v : Int) :
    (∃ vs', PB B m f tv (.slice (some ⟨g, 0, none⟩) L cap) fl vs' { S with cls := S.cls.set n ⟨u, v, e.lits, e.next⟩ } ((w.setCell ⟨g, n * 4, none⟩ (.int .i64 u)).setCell ⟨g, n * 4 + 1, none⟩ (.int .i64 v))) ∧ Below B w ((w.setCell ⟨g, n * 4, none⟩ (.int .i64 u)).setCell ⟨g, n * 4 + 1, none⟩ (.int .i64 v)) := by
  obtain ⟨a, c, h1, h2, h3, h3', h4⟩ := h.cvs n e hn
  have hl := (List.getElem?_eq_some_iff.1 h1).1
  have hl2 := (List.getElem?_eq_some_iff.1 h2).1
  obtain ⟨q1, b1⟩ := h.clsSet (k := 0) (e' := ⟨u, e.b, e.lits, e.next⟩) hn (by omega) (.int .i64 u) ⟨a, c, by rw [Nat.add_zero, List.getElem?_set_self hl], by rw [List.getElem?_set_ne (by omega)]; exact h2, by rw [List.getElem?_set_ne (by omega)]; exact h3, by rw [List.getElem?_set_ne (by omega)]; exact h3', h4⟩
  have hn' : (S.cls.set n ⟨u, e.b, e.lits, e.next⟩)[n]? = some ⟨u, e.b, e.lits, e.next⟩ := set_getG _ _ _ _ hn
  clear h1 h2 h3 h3' h4
  obtain ⟨a, c, h1, h2, h3, h3', h4⟩ := q1.cvs n _ hn'
  obtain ⟨q2, b2⟩ := q1.clsSet (k := 1) (e' := ⟨u, v, e.lits, e.next⟩) hn' (by omega) (.int .i64 v) ⟨a, c, by rw [List.getElem?_set_ne (by omega)]; exact h1, by rw [List.getElem?_set_self (by simpa using hl2)], by rw [List.getElem?_set_ne (by omega)]; exact h3, by rw [List.getElem?_set_ne (by omega)]; exact h3', h4⟩
  have h9 := q2
  dsimp only at h9
  rw [List.set_set] at h9
  exact ⟨⟨_, h9⟩, b1.trans b2⟩
end

/-- What replace has done. -/
def RepPost (S : Sb) (n : Nat) (e : Cb) (o : Int) (b : Bool) (S' : Sb) : Prop :=
  (b = false ∧ ∃ k, k < e.lits.length ∧ S' = { S with cls := S.cls.set n { e with next := k } } ∧ (S.kn o ∨ ∀ y ∈ e.lits, y = o ∨ S.kn (-y))) ∨
  (b = true ∧ ∃ y k, k < e.lits.length ∧ y ∈ e.lits ∧ y ≠ o ∧ ¬ S.kn (-y) ∧ S' = { S with cls := S.cls.set n ⟨o, y, e.lits, k⟩, watch := upd S.watch y (S.watch y ++ [(n : Int)]) })
/-- The literals that have been gone through. -/
def Gone (S : Sb) (e : Cb) (o : Int) (k : Nat) : Prop := ∀ j y, j < k → e.lits[(e.next + j) % e.lits.length]? = some y → y = o ∨ S.kn (-y)
theorem Gone.all {S : Sb} {e : Cb} {o : Int} (hn : e.next < e.lits.length) (h : Gone S e o e.lits.length) : ∀ y ∈ e.lits, y = o ∨ S.kn (-y) := by
  intro y hy
  obtain ⟨p, hp⟩ := List.mem_iff_getElem?.1 hy
  have hlt := (List.getElem?_eq_some_iff.1 hp).1
  refine h ((p + e.lits.length - e.next) % e.lits.length) y (Nat.mod_lt _ (by omega)) ?_
  rw [Nat.add_mod_mod, show e.next + (p + e.lits.length - e.next) = p + e.lits.length by omega, Nat.add_mod_right, Nat.mod_eq_of_lt hlt]
  exact hp
theorem Gone.succ {S : Sb} {e : Cb} {o : Int} {k : Nat} (h : Gone S e o k) {y : Int} (hy : e.lits[(e.next + k) % e.lits.length]? = some y) (h2 : y = o ∨ S.kn (-y)) : Gone S e o (k + 1) := by
  intro j z hj hz
  by_cases hjk : j = k
  · subst hjk; rw [hy] at hz; cases hz; exact h2
  · exact h j z (by omega) hz

set_option maxRecDepth 100000 in
set_option maxHeartbeats 4000000 in
theorem breplace_any {B : Nat} {m : Mb} {f : Nat → Value} {tv cv : Value} {fl : Bool} {vs : List Value} {S : Sb} {w : World} (h : PB B m f tv cv fl vs S w) {n : Nat} {x o : Int} {e : Cb} (hn : S.cls[n]? = some e) (ho : otherB e x = o) (hnx : e.next < e.lits.length)
    (hok : ∀ y ∈ e.lits, y ≠ 0 ∧ y.natAbs ≤ m.n) (hoo : o ≠ 0 ∧ o.natAbs ≤ m.n) (hnn : m.n ≤ 1000000) (hfew : ∀ y, (S.watch y).length ≤ 1000000000) :
    Calls Try.prog 77 #[.pointer (some ⟨m.pb, 0, none⟩), .int .i64 n, .int .i64 x] w fun e' w' => ∃ b S', e' = .returned (.bool b) ∧ RepPost S n e o b S' ∧ Hid (∃ f' vs', PB B m f' tv cv fl vs' S' w') ∧ Hid (Below B w w') := by
  have hlt : n < S.cls.length := (List.getElem?_eq_some_iff.1 hn).1
  obtain ⟨g, cap, hgc, _⟩ := h.cls.form (by omega)
  subst hgc
  have c4 : w.cell? ⟨m.pb, 4, none⟩ = some (.slice (some ⟨g, 0, none⟩) S.cls.length cap) := h.blk.cell rfl
  obtain ⟨ra, rc, k0, k1, k2, k3, ki, kp, kl, km⟩ := h.cl hn
  have hn1 : (0 : Int) ≤ (n : Int) := by omega
  have hn2 : (n : Int) < (S.cls.length : Int) := by omega
  have HOT := Lib.hid (other_is (w := w) (p := ⟨g, n * 4, none⟩) rfl k0 k1 ho)
  have HP := Lib.hid h
  have HN := Lib.hid hn
  have HOK := Lib.hid hok
  have HNN := Lib.hid hnn
  have HFEW := Lib.hid hfew
  have HNX := Lib.hid hnx
  have HKI := Lib.hid ki
  have HKM : Hid ((e.lits.length : Int) ≤ 9223372036854775807) := by have : maxLen = 9223372036854775807 := rfl; unfold Hid; omega
  by_cases hko : S.kn o
  · have HH := Lib.hid (rholds_is (x := o) (b := true) h hoo.2 hnn (by simpa using hko.2))
    have HFIN : Hid (RepPost S n e o false S) := .inl ⟨rfl, e.next, hnx, by rw [set_sameG _ _ _ hn], .inl hko⟩
    clear h hn ho hnx hok hoo hnn hfew ki kp kl km hko
    go_enter Try.func77, Try.ntmps77
    go_wp2_with fail
    refine HOT.out.mono ?_
    rintro e' w' ⟨rfl, rfl⟩
    go_wp2_with fail
    refine HH.out.mono ?_
    rintro e' w' ⟨rfl, hq⟩
    have HQ := Lib.hid hq
    clear hq
    go_wp2
    go_ret
    exact ⟨false, S, rfl, HFIN.out, ⟨_, _, HP.out.below (quietBelow HQ.out _)⟩, quietBelow HQ.out _⟩
  · have HH := Lib.hid (rholds_is (x := o) (b := false) h hoo.2 hnn (by rw [decide_eq_false_iff_not]; exact fun e => hko ⟨hoo.1, e⟩))
    obtain ⟨b0, off0, lit0, hra0, _, _⟩ := ki.at (k := 0) (by omega)
    obtain ⟨Ln, hLn⟩ : ∃ Ln, e.lits.length = Ln := ⟨_, rfl⟩
    have HLN := Lib.hid hLn
    rw [hLn] at k2 hnx
    have hkm : (Ln : Int) ≤ 9223372036854775807 := by rw [← hLn]; exact HKM.out
    have hL1 : (1 : Int) ≤ (Ln : Int) := by omega
    have hL0 : ((Ln : Int) == 0) = false := by rw [beq_eq_false_iff_ne]; omega
    clear h hn ho hok hoo hnn hfew kp kl km hko hnx ki HKM k3 hra0
    go_enter Try.func77, Try.ntmps77
    go_wp2_with fail
    refine HOT.out.mono ?_
    rintro e' w' ⟨rfl, rfl⟩
    go_wp2_with fail
    refine HH.out.mono ?_
    rintro e' w1 ⟨rfl, hq⟩
    have HQ := Lib.hid hq
    have k2' : w1.cell? ⟨g, n * 4 + 2, none⟩ = some (.slice ra Ln rc) := by obtain ⟨q, rfl⟩ := hq; exact k2
    clear hq k2 k0 k1 c4 hLn
    go_wp2
    go_loopw [27] (fun i wr => ∃ (k : Nat), i = .int .i64 k ∧ k ≤ Ln ∧ Hid (∃ vs', PB B m f tv (.slice (some ⟨g, 0, none⟩) S.cls.length cap) fl vs' { S with cls := S.cls.set n { e with next := (e.next + k) % e.lits.length } } wr) ∧ Hid (Gone S e o k) ∧ Hid (Below B w wr)) (fun i _ => Ln - (intOf i).toNat)
    case atStart =>
      refine ⟨0, rfl, Nat.zero_le _, ?_, fun j y hj => by omega, quietBelow HQ.out _⟩
      have h1 := HP.out.below (quietBelow HQ.out _)
      refine ⟨vs, ?_⟩
      rw [Nat.add_zero, Nat.mod_eq_of_lt HNX.out, set_sameG _ _ _ HN.out]
      exact h1
    case round =>
      obtain ⟨k, rfl, hk, HPE, HG, HB⟩ := hrel
      obtain ⟨vs2, hP2⟩ := HPE.out
      by_cases hklt : k < Ln
      · obtain ⟨nx, hnx⟩ : ∃ nx, (e.next + k) % e.lits.length = nx := ⟨_, rfl⟩
        rw [hnx] at hP2
        have hnl : nx < e.lits.length := by rw [← hnx]; exact Nat.mod_lt _ (by rw [HLN.out]; omega)
        obtain ⟨a2, rc2, q0, q1, q2, q3, qi, qp, ql, qm⟩ := hP2.cl (set_getG _ _ _ _ HN.out)
        dsimp only at q0 q1 q2 q3 qi ql
        obtain ⟨b, off, y, rfl, hy, hcy⟩ := qi.at hnl
        rw [HLN.out] at q2 hnl
        have hyo := HOK.out y (List.mem_of_getElem? hy.out)
        have hn3 : (nx : Int) < (Ln : Int) := by omega
        have hn4 : (0 : Int) ≤ (nx : Int) := by omega
        obtain ⟨nx1, hnx1⟩ : ∃ nx1, nx + 1 = nx1 := ⟨_, rfl⟩
        obtain ⟨nx2, hnx2⟩ : ∃ nx2, nx1 % Ln = nx2 := ⟨_, rfl⟩
        have hw1 : IntKind.i64.wrap (↑nx + 1) = (nx1 : Int) := by rw [← hnx1]; exact IntWalk.i64_in _ (by omega)
        have hn5 : (0 : Int) ≤ (nx1 : Int) := by omega
        have hw2 : (nx1 : Int).tmod (Ln : Int) = (nx2 : Int) := by rw [← hnx2]; rw [Int.tmod_eq_emod_of_nonneg (by omega)]; rfl
        have hnx2' : (e.next + (k + 1)) % e.lits.length = nx2 := by rw [← hnx2, ← hnx1, ← hnx, HLN.out, Nat.mod_add_mod, Nat.add_assoc]
        have HNX2 := Lib.hid hnx2'
        have hLne : ¬ Ln = 0 := by omega
        have hn6 : nx2 < Ln := by rw [← hnx2]; exact Nat.mod_lt _ (by omega)
        have hw3 : IntKind.i64.wrap (nx2 : Int) = (nx2 : Int) := IntWalk.i64_in _ (by omega)
        have hw4 := hnx2
        have fq := hP2.clFree (n * 4 + 3)
        have HP2 := Lib.hid hP2
        have HY := Lib.hid hyo
        have hy1 : -1000000 ≤ y := by have := HNN.out; omega
        have hy2 : y ≤ 1000000 := by have := HNN.out; omega
        have HYG : Hid (e.lits[(e.next + k) % e.lits.length]? = some y) := by unfold Hid; rw [hnx]; exact hy.out
        clear hnx hnx1 hnx2 hnx2' hP2 HPE qi qp ql qm hyo hy q0 q1 k2' hnl
        go_wp2
        go_quiet (fail)
        go_wp2
        refine wp_region_still_tail 14 (by kernel_rfl) (by kernel_rfl) ?_
        simp only [List.take_succ_cons, List.take_zero, List.drop_succ_cons, List.drop_zero]
        generalize hw2 : World.mk (wr.drewN nq).heap (wr.drewN nq).tape _ _ _ = w2
        have hq2 : QuietTo wr w2 := ⟨nq + 1, by rw [← hw2]; simp [World.drewN, Nat.add_assoc]⟩
        have HQ2 := Lib.hid hq2
        have HP3 := Lib.hid (HP2.out.below (quietBelow hq2 _))
        have s2 : w2.cell? ⟨g, n * 4 + 2, none⟩ = some (.slice (some ⟨b, off, none⟩) Ln rc2) := by obtain ⟨q, rfl⟩ := hq2; exact q2
        have s3 : w2.cell? ⟨g, n * 4 + 3, none⟩ = some (.int .i64 nx) := by obtain ⟨q, rfl⟩ := hq2; exact q3
        have fs := HP3.out.clFree (n * 4 + 3)
        clear hw2 hq2 q2 q3 fq hcy
        repeat (refine wpStill_step (fun K hK => ?_); go_simp; refine hK _ ?_; clear hK K)
        refine wpStill_nil ?_
        have hset := HP3.out.setN (set_getG _ _ _ _ HN.out) nx2
        have HPN : Hid (∃ vs', PB B m f tv (.slice (some ⟨g, 0, none⟩) S.cls.length cap) fl vs' { S with cls := S.cls.set n { e with next := (e.next + (k + 1)) % e.lits.length } } (w2.setCell ⟨g, n * 4 + 3, none⟩ (.int .i64 nx2))) := by
          have h9 := hset.1
          dsimp only at h9
          rw [List.set_set] at h9
          unfold Hid
          rw [HNX2.out]
          exact ⟨_, h9⟩
        have HBN : Hid (Below B w (w2.setCell ⟨g, n * 4 + 3, none⟩ (.int .i64 nx2))) := (HB.out.trans (quietBelow HQ2.out B)).trans hset.2
        clear hset hw4 hw3 hw2 hw1
        by_cases hyo : y = o
        · have e1 : (y != o) = false := by simp [hyo]
          have HG2 := Lib.hid (HG.out.succ HYG.out (.inl hyo))
          clear hyo
          go_wp2
          go_roundw
          case rel => exact ⟨k + 1, by go_num, by omega, HPN, HG2, HBN⟩
          case measure => simp [intOf]; omega
        · have e1 : (y != o) = true := by simp [hyo]
          have HYO := Lib.hid hyo
          clear hyo
          by_cases hkn : S.kn (-y)
          · have HG2 := Lib.hid (HG.out.succ HYG.out (.inr hkn))
            have HHY : Hid (Calls Try.prog 71 #[.pointer (some ⟨m.pb, 0, none⟩), .int .i64 (-y)] (w2.setCell ⟨g, n * 4 + 3, none⟩ (.int .i64 nx2)) fun e w' => e = .returned (.bool true) ∧ QuietTo (w2.setCell ⟨g, n * 4 + 3, none⟩ (.int .i64 nx2)) w') := by
              obtain ⟨vs9, h9⟩ := HPN.out
              exact rholds_is (x := -y) h9 (by rw [Int.natAbs_neg]; exact HY.out.2) HNN.out (by simpa using hkn.2)
            clear hkn
            go_wp2_with fail
            refine HHY.out.mono ?_
            rintro e' w' ⟨rfl, hq⟩
            have HQ3 := Lib.hid hq
            clear hq
            go_wp2
            go_roundw
            case rel =>
              refine ⟨k + 1, by go_num, by omega, ?_, HG2, HBN.out.trans (quietBelow HQ3.out B)⟩
              obtain ⟨vs9, h9⟩ := HPN.out
              exact ⟨vs9, h9.below (quietBelow HQ3.out _)⟩
            case measure => simp [intOf]; omega
          · have HHY : Hid (Calls Try.prog 71 #[.pointer (some ⟨m.pb, 0, none⟩), .int .i64 (-y)] (w2.setCell ⟨g, n * 4 + 3, none⟩ (.int .i64 nx2)) fun e w' => e = .returned (.bool false) ∧ QuietTo (w2.setCell ⟨g, n * 4 + 3, none⟩ (.int .i64 nx2)) w') := by
              obtain ⟨vs9, h9⟩ := HPN.out
              exact rholds_is (x := -y) h9 (by rw [Int.natAbs_neg]; exact HY.out.2) HNN.out (by rw [decide_eq_false_iff_not]; exact fun e => hkn ⟨by have := HY.out.1; omega, e⟩)
            have HKN := Lib.hid hkn
            clear hkn
            go_wp2_with fail
            refine HHY.out.mono ?_
            rintro e' w4 ⟨rfl, hq⟩
            have HP4 : Hid (∃ vs', PB B m f tv (.slice (some ⟨g, 0, none⟩) S.cls.length cap) fl vs' { S with cls := S.cls.set n { e with next := (e.next + (k + 1)) % e.lits.length } } w4) := by
              obtain ⟨vs9, h9⟩ := HPN.out
              exact ⟨vs9, h9.below (quietBelow hq _)⟩
            have HB4 := Lib.hid (HBN.out.trans (quietBelow hq B))
            obtain ⟨vs5, hP5⟩ := HP4.out
            obtain ⟨_, _, t0, t1, _⟩ := hP5.cl (set_getG _ _ _ _ HN.out)
            have fs0 := hP5.clFree (n * 4)
            have fs1 := hP5.clFree (n * 4 + 1)
            have hAB := hP5.setAB (set_getG _ _ _ _ HN.out) o y
            dsimp only at hAB t0 t1
            rw [List.set_set] at hAB
            have HAB := Lib.hid hAB
            clear hq HP4 HPN HBN HHY hAB s2 s3 fs
            obtain ⟨vs6, hP6⟩ := HAB.out.1
            have hw := bwatch_any (x := y) (z := (n : Int)) hP6 HY.out.2 HNN.out (HFEW.out y)
            have HW := Lib.hid hw
            have HFIN : Hid (RepPost S n e o true { S with cls := S.cls.set n ⟨o, y, e.lits, (e.next + (k + 1)) % e.lits.length⟩, watch := upd S.watch y (S.watch y ++ [(n : Int)]) }) :=
              .inr ⟨rfl, y, _, Nat.mod_lt _ (by have := HNX.out; omega), List.mem_of_getElem? HYG.out, HYO.out, HKN.out, rfl⟩
            clear hP6 hw
            go_wp2_with fail
            refine HW.out.mono ?_
            rintro e' w' ⟨rfl, hP7, hB7⟩
            have HP7 := Lib.hid hP7
            have HB7 := Lib.hid ((HB4.out.trans HAB.out.2).trans hB7)
            clear hP7 hB7 HW
            go_wp2
            go_ret
            obtain ⟨f', h9⟩ := HP7.out
            exact ⟨true, _, rfl, HFIN.out, ⟨_, _, h9⟩, HB7⟩
      · have hkl : k = e.lits.length := by rw [HLN.out]; omega
        have HFIN : Hid (RepPost S n e o false { S with cls := S.cls.set n { e with next := (e.next + k) % e.lits.length } }) := by
          have h1 := HG.out
          rw [hkl] at h1 ⊢
          exact .inl ⟨rfl, _, Nat.mod_lt _ (by have := HNX.out; omega), rfl, .inr (h1.all HNX.out)⟩
        have HP9 := Lib.hid hP2
        clear hP2 HPE hkl
        go_wp2
        go_ret
        exact ⟨false, _, rfl, HFIN.out, ⟨_, _, HP9.out⟩, HB⟩

/-! RupG -/
/-- The last one in the place of one, and one less. -/
def swapL (L : List Int) (k : Nat) : List Int := (L.set k (L.getD (L.length - 1) 0)).take (L.length - 1)
theorem swap_spec {L : List Int} {k : Nat} {n : Int} (hk : L[k]? = some n) (hnd : L.Nodup) :
    (swapL L k).Nodup ∧ (∀ z, z ∈ swapL L k ↔ z ∈ L ∧ z ≠ n) ∧ (∀ z ∈ L.drop (k + 1), z ∈ (swapL L k).drop k) ∧ k ≤ (swapL L k).length := by
  have hlt := (List.getElem?_eq_some_iff.1 hk).1
  obtain ⟨A, Bs, hL, hA⟩ : ∃ A Bs, L = A ++ n :: Bs ∧ A.length = k := by
    refine ⟨L.take k, L.drop (k + 1), ?_, by rw [List.length_take]; omega⟩
    have h1 := List.take_append_drop k L
    rw [List.drop_eq_getElem_cons hlt] at h1
    have h2 : L[k] = n := (List.getElem?_eq_some_iff.1 hk).2
    rw [h2] at h1
    exact h1.symm
  have hB : Bs = [] ∨ ∃ C t, Bs = C ++ [t] := by
    rcases List.eq_nil_or_concat Bs with h | ⟨C, t, h⟩
    · exact .inl h
    · exact .inr ⟨C, t, by rw [h, List.concat_eq_append]⟩
  rcases hB with rfl | ⟨C, t, rfl⟩
  · have hW : swapL L k = A := by
      unfold swapL
      rw [hL, ← hA]
      have e1 : (A ++ [n]).length - 1 = A.length := by simp
      rw [e1, List.set_append, if_neg (by omega), Nat.sub_self]
      simp
    rw [hW]
    rw [hL] at hnd
    have hn := List.nodup_append.1 hnd
    refine ⟨hn.1, fun z => ?_, fun z hz => ?_, by omega⟩
    · rw [hL, List.mem_append, List.mem_singleton]
      constructor
      · intro h; exact ⟨.inl h, fun e => hn.2.2 z h n (by simp) e⟩
      · rintro ⟨h | h, h2⟩
        · exact h
        · exact absurd h h2
    · rw [hL, List.drop_of_length_le (by simp; omega)] at hz
      simp at hz
  · have hW : swapL L k = A ++ t :: C := by
      unfold swapL
      rw [hL, ← hA]
      have e1 : (A ++ n :: (C ++ [t])).length - 1 = A.length + 1 + C.length := by simp; omega
      have e2 : (A ++ n :: (C ++ [t])).getD (A.length + 1 + C.length) 0 = t := by
        rw [List.getD_eq_getElem?_getD, List.getElem?_append_right (by omega), show A.length + 1 + C.length - A.length = C.length + 1 by omega, List.getElem?_cons_succ, List.getElem?_append_right (by omega), Nat.sub_self]
        rfl
      rw [e1, e2, List.set_append, if_neg (by omega), Nat.sub_self, List.set_cons_zero]
      have e3 : A ++ t :: (C ++ [t]) = (A ++ t :: C) ++ [t] := by simp
      rw [e3, List.take_append_of_le_length (by simp; omega), List.take_of_length_le (by simp; omega)]
    rw [hW]
    rw [hL] at hnd
    have hperm : (A ++ n :: (C ++ [t])).Perm (n :: (A ++ t :: C)) := by
      refine List.perm_middle.trans (List.Perm.cons _ (List.Perm.append_left _ ?_))
      exact List.perm_append_comm
    have hnd2 := (hperm.nodup_iff.1 hnd)
    rw [List.nodup_cons] at hnd2
    refine ⟨hnd2.2, fun z => ?_, fun z hz => ?_, by simp; omega⟩
    · rw [hL, hperm.mem_iff, List.mem_cons]
      constructor
      · intro h; exact ⟨.inr h, fun e => hnd2.1 (e ▸ h)⟩
      · rintro ⟨h | h, h2⟩
        · exact absurd h h2
        · exact h
    · rw [hL, ← hA] at hz
      rw [List.drop_append, List.drop_of_length_le (by omega)] at hz
      simp at hz
      rw [← hA, List.drop_left]
      rcases hz with h | h
      · exact List.mem_cons_of_mem _ h
      · rw [h]; exact List.mem_cons_self
theorem swap_len {L : List Int} {k : Nat} (h : k < L.length) : (swapL L k).length = L.length - 1 := by
  unfold swapL; rw [List.length_take, List.length_set]; omega

theorem ownsRow_take {w : World} {B n cap g size n' : Nat} {e : TypeId} {xs : List Value} (h : w.ownsRow B e size (.slice (some ⟨g, 0, none⟩) n cap) n xs) (hn : n' ≤ n) :
    w.ownsRow B e size (.slice (some ⟨g, 0, none⟩) n' cap) n' (xs.take (n' * size)) := by
  obtain ⟨h1, h2⟩ := h
  have hle : n' * size ≤ n * size := Nat.mul_le_mul_right _ hn
  refine ⟨by rw [List.length_take, h1]; omega, .inr ?_⟩
  rcases h2 with ⟨h2, _⟩ | ⟨g', cap', cur, h2, h3, h4, h5, h6, h7, h8⟩
  · cases h2
  · cases h2
    refine ⟨g, cap, cur, rfl, h3, h4, by omega, h6, h7, ?_⟩
    rw [← h8, List.take_take, Nat.min_eq_left hle]

/-- How much is still to be done. -/
def bm (S : Sb) : Nat := 2 * zeros S.known + S.trail.length - S.looked
theorem bm_learn {S : Sb} {x : Int} (hx : x ≠ 0) (h : x.natAbs < S.known.length) (hl : S.looked ≤ S.trail.length) : bm (learnB S x).1 ≤ bm S := by
  unfold learnB
  split
  · rename_i h0
    have := zeros_set S.known x.natAbs x h h0 hx
    simp only [bm, List.length_append, List.length_cons, List.length_nil]
    omega
  · exact Nat.le_refl _

/-- How far it is. -/
def LvI (G : List (List Int)) (A : List Int) (n : Nat) (R : List Int) (S S1 : Sb) (x : Int) (k : Nat) : Prop :=
  Jnv G A n R S1 (-x) ((S1.watch x).drop k) ∧ k ≤ (S1.watch x).length ∧ S1.looked = S.looked ∧ S1.cls.map Cb.lits = S.cls.map Cb.lits ∧ (∀ y, S.kn y → S1.kn y) ∧ bm S1 ≤ bm S
section
variable {G : List (List Int)} {A R : List Int} {n : Nat} {S S1 : Sb} {x : Int} {k i : Nat} {e : Cb}
theorem LvI.len (h : LvI G A n R S S1 x k) : S1.cls.length = S.cls.length := by have := congrArg List.length h.2.2.2.1; simpa using this
theorem map_lits_set {l : List Cb} {i : Nat} {e e' : Cb} (h : l[i]? = some e) (he : e'.lits = e.lits) : (l.set i e').map Cb.lits = l.map Cb.lits := by
  rw [List.map_set]
  refine set_sameG _ _ _ ?_
  rw [List.getElem?_map, h, he]; rfl
/-- The clause at hand. -/
theorem LvI.at (h : LvI G A n R S S1 x k) (hk : k < (S1.watch x).length) : ∃ (i : Nat) (e : Cb), (S1.watch x)[k]? = some (i : Int) ∧ (S1.watch x).drop k = (i : Int) :: (S1.watch x).drop (k + 1) ∧ S1.cls[i]? = some e ∧ (x = e.a ∨ x = e.b) ∧ OkB G e ∧
    (∀ y ∈ e.lits, y ≠ 0 ∧ y.natAbs ≤ n) ∧ otherB e x ∈ e.lits := by
  obtain ⟨z, hz⟩ : ∃ z, (S1.watch x)[k]? = some z := ⟨_, List.getElem?_eq_getElem hk⟩
  obtain ⟨i, e, rfl, he, hx⟩ := h.1.wi x z (List.mem_of_getElem? hz)
  have hok := h.1.from_ i e he
  refine ⟨i, e, hz, ?_, he, hx, hok, h.1.ok _ hok.mem, ?_⟩
  · rw [List.drop_eq_getElem_cons hk]
    rw [List.getElem?_eq_getElem hk] at hz
    rw [Option.some.inj hz]
  · unfold otherB; split
    · exact hok.hb
    · exact hok.ha
/-- It stays: what is left follows. -/
theorem LvI.stay (h : LvI G A n R S S1 x k) (hk : k < (S1.watch x).length) (hdrop : (S1.watch x).drop k = (i : Int) :: (S1.watch x).drop (k + 1)) (he : S1.cls[i]? = some e) {S2 : Sb} (hr : RepPost S1 i e (otherB e x) false S2) :
    S2.watch = S1.watch ∧ S2.cls.length = S1.cls.length ∧ (∃ e2, S2.cls[i]? = some e2 ∧ otherB e2 x = otherB e x) ∧ Jnv G A n R S2 (-x) ((S2.watch x).drop k) ∧
      ((learnB S2 (otherB e x)).2 = true → LvI G A n R S (learnB S2 (otherB e x)).1 x (k + 1)) ∧ ((learnB S2 (otherB e x)).2 = false → LvI G A n R S (learnB S2 (otherB e x)).1 x k ∧ Fails G A) := by
  rcases hr with ⟨_, j, hj, rfl, hall⟩ | ⟨h1, _⟩
  case inr => cases h1
  obtain ⟨J, hle, hlk, hlits, hkn, hbm⟩ := h
  have hok := J.from_ i e he
  have J2 := J.next he hj
  generalize hS2 : ({ S1 with cls := S1.cls.set i { e with next := j } } : Sb) = S2 at J2
  have w2 : S2.watch = S1.watch := by rw [← hS2]
  have k2 : S2.known = S1.known := by rw [← hS2]
  have c2 : S2.cls = S1.cls.set i { e with next := j } := by rw [← hS2]
  have t2 : S2.trail = S1.trail ∧ S2.looked = S1.looked := by rw [← hS2]; exact ⟨rfl, rfl⟩
  have kk : ∀ y, S2.kn y ↔ S1.kn y := fun y => by unfold Sb.kn; rw [k2]
  have he2 : S2.cls[i]? = some { e with next := j } := by rw [c2]; exact set_getG _ _ _ _ he
  have ho : otherB e x ∈ e.lits := by unfold otherB; split; exact hok.hb; exact hok.ha
  have hoo := J.ok _ hok.mem _ ho
  have hder : Der G A (otherB e x) := by
    rcases hall with h | h
    · exact J.der _ h
    · exact .unit hok.mem ho fun y hy hne => J.der _ ((h y hy).resolve_left hne)
  obtain ⟨J3, m3, t3, f3, g3, g4, g5⟩ := J2.learn hoo.1 hoo.2 hder
  rw [← w2] at J2 J3 hle hdrop
  have hlits2 : S2.cls.map Cb.lits = S.cls.map Cb.lits := by rw [c2, map_lits_set (e' := { e with next := j }) he rfl]; exact hlits
  have hbm3 : bm (learnB S2 (otherB e x)).1 ≤ bm S := by
    refine Nat.le_trans (bm_learn hoo.1 (by rw [J2.len]; omega) J2.lk) ?_
    unfold bm at hbm ⊢
    rw [k2, t2.1, t2.2]; exact hbm
  have hlk3 : (learnB S2 (otherB e x)).1.looked = S.looked := by rw [g5, t2.2]; exact hlk
  have hkn3 : ∀ y, S.kn y → (learnB S2 (otherB e x)).1.kn y := fun y hy => m3 y ((kk y).2 (hkn y hy))
  rw [← w2] at hk
  refine ⟨w2, by rw [c2, List.length_set], ⟨_, he2, rfl⟩, J2, fun ht => ?_, fun hf => ⟨⟨by rw [g4]; exact J3, by rw [g4]; exact hle, hlk3, by rw [g3]; exact hlits2, hkn3, hbm3⟩, f3 hf⟩⟩
  rw [hdrop] at J3
  have J4 := J3.keep (e := { e with next := j }) (by rw [g3]; exact he2) (by rw [Int.neg_neg]; exact t3 ht)
  exact ⟨by rw [g4]; exact J4, by rw [g4]; omega, hlk3, by rw [g3]; exact hlits2, hkn3, hbm3⟩
/-- It watches another one. -/
theorem LvI.left (h : LvI G A n R S S1 x k) (hx0 : x ≠ 0) (hi : (S1.watch x)[k]? = some (i : Int)) (hdrop : (S1.watch x).drop k = (i : Int) :: (S1.watch x).drop (k + 1)) (he : S1.cls[i]? = some e) (hx : x = e.a ∨ x = e.b) {S2 : Sb} (hr : RepPost S1 i e (otherB e x) true S2) :
    S2.watch x = S1.watch x ∧ S2.cls.length = S1.cls.length ∧ LvI G A n R S { S2 with watch := upd S2.watch x (swapL (S1.watch x) k) } x k := by
  rcases hr with ⟨h1, _⟩ | ⟨_, y, j, hj, hy, hyo, hyf, rfl⟩
  · cases h1
  obtain ⟨J, hle, hlk, hlits, hkn, hbm⟩ := h
  have hok := J.from_ i e he
  obtain ⟨s1, s2, s3, s4⟩ := swap_spec hi (J.wnd x)
  have hxy : x ≠ y := fun e => by
    have hd : S1.kn (-x) := Sb.done_kn J (J.curk.resolve_left (by omega))
    exact hyf (e ▸ hd)
  rw [hdrop] at J
  have J2 := J.move (x := -x) (by omega) he (by rw [Int.neg_neg]; exact hx) hy (by rw [Int.neg_neg]; exact hyo) hyf hj s1 (by rw [Int.neg_neg]; exact s2) (todo' := (swapL (S1.watch x) k).drop k) (fun z hz _ => s3 z hz)
  rw [Int.neg_neg] at J2
  refine ⟨?_, by simp, ?_, ?_, hlk, ?_, hkn, hbm⟩
  · dsimp only; rw [upd_other _ _ hxy]
  · dsimp only; rw [upd_same]; exact J2
  · dsimp only; rw [upd_same]; exact s4
  · dsimp only; rw [map_lits_set (e' := ⟨otherB e x, y, e.lits, j⟩) he rfl]; exact hlits
end

/-! RupH -/
theorem rowCap {w : World} {B n cap g size : Nat} {e : TypeId} {xs : List Value} (h : w.ownsRow B e size (.slice (some ⟨g, 0, none⟩) n cap) n xs) : n ≤ cap ∧ cap ≤ maxLen := by
  rcases h.2 with ⟨h2, _⟩ | ⟨g', cap', cur, h2, h3, h4, h5, h6, h7, h8⟩
  · cases h2
  · cases h2; exact ⟨h5, h6⟩
/-- What is behind the store of the last one and the cut. -/
theorem PB.swapped {B : Nat} {m : Mb} {f : Nat → Value} {tv cv : Value} {fl : Bool} {vs : List Value} {S : Sb} {w w4 : World} (h : PB B m f tv cv fl vs S w) {x : Int} {g cap k Lm : Nat} (hx : x.natAbs ≤ m.n) (hf : f (placeN x) = .slice (some ⟨g, 0, none⟩) (S.watch x).length cap) (hL : (S.watch x).length = Lm + 1)
    (hq : QuietTo (w.setCell ⟨g, k, none⟩ (.int .i64 ((S.watch x).getD Lm 0))) w4) :
    PB B m (updV f (placeN x) (.slice (some ⟨g, 0, none⟩) Lm cap)) tv cv fl vs { S with watch := upd S.watch x (swapL (S.watch x) k) } (w4.setCell ⟨m.wb, placeN x, none⟩ (.slice (some ⟨g, 0, none⟩) Lm cap)) ∧ Below B w (w4.setCell ⟨m.wb, placeN x, none⟩ (.slice (some ⟨g, 0, none⟩) Lm cap)) := by
  obtain ⟨q, rfl⟩ := hq
  have hg := (h.rows x).lt g (by rw [hf]; rfl)
  have hwb := h.lt 2 _ rfl
  have hs : (swapL (S.watch x) k).length = Lm := by unfold swapL; rw [List.length_take, List.length_set]; omega
  have hrow := h.rows x
  rw [hf] at hrow
  have h1 := ownsRow_take (n' := Lm) (ownsRow_set (i := k) (u := .int .i64 ((S.watch x).getD Lm 0)) hrow) (by omega)
  refine ⟨h.rowSet hx (by simp) (fun b _ hb => ?_) ?_ (fun b hb => .inl (by rw [hf]; exact hb)), ?_⟩
  · exact setCell_block w _ _ (fun e => hb (by rw [hf, e]; rfl))
  · rw [hs]
    have h2 : (swapL (S.watch x) k).map (Value.int .i64) = (((S.watch x).map (Value.int .i64)).set k (.int .i64 ((S.watch x).getD Lm 0))).take (Lm * 1) := by
      unfold swapL
      rw [hL, Nat.add_sub_cancel, Nat.mul_one, List.map_take, List.map_set]
    rw [h2]
    exact h1
  · exact ((((Below.refl B w).setCell hg.1 _).trans (quietBelow ⟨q, rfl⟩ B))).setCell hwb.1 _

set_option maxRecDepth 100000 in
set_option maxHeartbeats 4000000 in
theorem leave_any {B : Nat} {m : Mb} {f : Nat → Value} {tv cv : Value} {fl : Bool} {vs : List Value} {S : Sb} {w : World} (h : PB B m f tv cv fl vs S w) {G : List (List Int)} {A R : List Int} {x : Int} (J : Jnv G A m.n R S (-x) (S.watch x)) (hx0 : x ≠ 0) (hxn : x.natAbs ≤ m.n) (hnn : m.n ≤ 1000000) (hcl : S.cls.length ≤ 1000000000) :
    Calls Try.prog 73 #[.pointer (some ⟨m.pb, 0, none⟩), .int .i64 x] w fun e w' => ∃ b S' k, e = .returned (.bool b) ∧ LvI G A m.n R S S' x k ∧ (b = true → k = (S'.watch x).length) ∧ (b = false → Fails G A) ∧ Hid (∃ f' tv' vs', PB B m f' tv' cv fl vs' S' w') ∧ Hid (Below B w w') := by
  obtain ⟨p, hp⟩ : ∃ p, placeN x = p := ⟨_, rfl⟩
  have hplt := placeN_lt hxn
  rw [hp] at hplt
  have hx1 : -1000000 ≤ x := by omega
  have hx2 : x ≤ 1000000 := by omega
  have hp1 : (0 : Int) ≤ (p : Int) := by omega
  have hp2 : (p : Int) < 2 * (m.n : Int) + 2 := by omega
  have KP := Lib.hid (fun W => place_is hp hx1 hx2 W)
  have HP := Lib.hid h
  have HJ : Hid (LvI G A m.n R S S x 0) := ⟨J, Nat.zero_le _, rfl, rfl, fun _ h => h, Nat.le_refl _⟩
  have HNN := Lib.hid hnn
  have HCL := Lib.hid hcl
  have HX0 := Lib.hid hx0
  have HXN := Lib.hid hxn
  have HPP := Lib.hid hp
  have HPL := Lib.hid hplt
  clear h J hx0 hxn hnn hcl hp hplt
  go_enter Try.func73, Try.ntmps73
  go_wp2_with fail
  refine (KP.out _).mono ?_
  rintro e w0 ⟨rfl, rfl⟩
  go_wp2
  go_loopw [6] (fun i wr => ∃ (k : Nat) (S1 : Sb), i = .int .i64 k ∧ Hid (∃ f1 tv1 vs1, PB B m f1 tv1 cv fl vs1 S1 wr) ∧ Hid (LvI G A m.n R S S1 x k) ∧ Hid (Below B w0 wr)) (fun i wr => lenAt wr ⟨m.wb, p, none⟩ - (intOf i).toNat)
  case atStart => exact ⟨0, S, rfl, ⟨_, _, _, HP.out⟩, HJ, Below.refl _ _⟩
  case round =>
    obtain ⟨k, S1, rfl, HPE, HL, HB⟩ := hrel
    obtain ⟨f1, tv1, vs1, hP1⟩ := HPE.out
    have c3 : wr.cell? ⟨m.pb, 3, none⟩ = some (.slice (some ⟨m.wb, 0, none⟩) (2 * m.n + 2) (2 * m.n + 2)) := hP1.blk.cell rfl
    have c4 : wr.cell? ⟨m.wb, p, none⟩ = some (f1 p) := hP1.place HPL.out
    obtain ⟨Ll, hLl⟩ : ∃ Ll, (S1.watch x).length = Ll := ⟨_, rfl⟩
    have hfew := HL.out.1.few x
    have hlen := HL.out.len
    have hkl := HL.out.2.1
    have hcl := HCL.out
    rw [hLl] at hfew hkl
    by_cases hlt : k < Ll
    · obtain ⟨gx, cx, hfx, _⟩ := (hP1.rows x).form (by omega)
      rw [HPP.out, hLl] at hfx
      rw [hfx] at c4
      obtain ⟨i, e, hi, hdrop, he, hxe, hok, hoky, ho⟩ := HL.out.at (by rw [hLl]; exact hlt)
      have hrow := hP1.rows x
      rw [HPP.out, hfx, hLl] at hrow
      have c5 : wr.cell? ⟨gx, k, none⟩ = some (.int .i64 (i : Int)) := rowCell hrow (by rw [List.getElem?_map, hi]; rfl)
      have hM := lenAt_of c4
      have hR := breplace_any hP1 he (x := x) (o := otherB e x) rfl hok.nx hoky (hoky _ ho) HNN.out (fun y => by have := HL.out.1.few y; omega)
      have HR := Lib.hid hR
      have hin : i < S1.cls.length := (List.getElem?_eq_some_iff.1 he).1
      obtain ⟨g, cap, hgc, _⟩ := hP1.cls.form (by omega)
      have HGC := Lib.hid hgc
      have HHI := Lib.hid hi
      have HDR := Lib.hid hdrop
      have HE := Lib.hid he
      have HXE := Lib.hid hxe
      have HOKY := Lib.hid hoky
      have HO := Lib.hid ho
      have HLL := Lib.hid hLl
      have HLEN := Lib.hid hlen
      have HIN := Lib.hid hin
      have HM := Lib.hid hM
      have hi1 : (0 : Int) ≤ (i : Int) := by omega
      have hi2 : (i : Int) < (S1.cls.length : Int) := by omega
      have hl1 : (Ll : Int) ≤ 1000000000 := by omega
      clear hP1 HPE hfx hi hdrop he hxe hok hoky ho hrow hR hgc hLl hlen hkl hfew hin hM
      go_wp2_with fail
      refine HR.out.mono ?_
      rintro e' w2 ⟨bb, S2, rfl, hpost, HP2, HB2⟩
      obtain ⟨f2, vs2, hP2⟩ := HP2.out
      have hbb : bb = true ∨ bb = false := by cases bb <;> simp
      rcases hbb with rfl | rfl
      · -- it watches another one
        obtain ⟨q1, q2, q3⟩ := HL.out.left HX0.out HHI.out HDR.out HE.out HXE.out hpost
        obtain ⟨Lm, hLm⟩ : ∃ Lm, Ll = Lm + 1 := ⟨Ll - 1, by omega⟩
        obtain ⟨g2, c2, hf2, _⟩ := (hP2.rows x).form (by rw [q1, HLL.out]; omega)
        have hfp := hf2
        rw [HPP.out, q1, HLL.out] at hf2
        have hw1 : (Ll : Int) - 1 = (Lm : Int) := by omega
        have hw2 : IntKind.i64.wrap ((Ll : Int) - 1) = (Lm : Int) := by rw [hw1]; exact IntWalk.i64_in _ (by omega)
        have d3 : w2.cell? ⟨m.pb, 3, none⟩ = some (.slice (some ⟨m.wb, 0, none⟩) (2 * m.n + 2) (2 * m.n + 2)) := hP2.blk.cell rfl
        have d4 : w2.cell? ⟨m.wb, p, none⟩ = some (.slice (some ⟨g2, 0, none⟩) Ll c2) := by rw [← hf2]; exact hP2.place HPL.out
        have hcap2 : Ll ≤ c2 := by
          have h9 := hP2.rows x
          rw [HPP.out, hf2, q1, HLL.out] at h9
          exact (rowCap h9).1
        have hLmC : (Lm : Int) ≤ (c2 : Int) := by omega
        have hLmI : (0 : Int) ≤ (Lm : Int) := by omega
        have hLmL : (Lm : Int) < (Ll : Int) := by omega
        have hkL : (k : Int) < (Ll : Int) := by omega
        have HPQ := Lib.hid hP2
        have HQ1 := Lib.hid q1
        have HQ3 := Lib.hid q3
        have HF2 := Lib.hid hf2
        have HFP := Lib.hid hfp
        have HLM := Lib.hid hLm
        obtain ⟨t, ht⟩ : ∃ t, (S1.watch x).getD Lm 0 = t := ⟨_, rfl⟩
        have HT := Lib.hid ht
        have HST : Hid (∀ w3, QuietTo w2 w3 → w3.cell? ⟨m.pb, 3, none⟩ = some (.slice (some ⟨m.wb, 0, none⟩) (2 * m.n + 2) (2 * m.n + 2)) ∧ w3.cell? ⟨m.wb, p, none⟩ = some (.slice (some ⟨g2, 0, none⟩) Ll c2) ∧ w3.cell? ⟨g2, Lm, none⟩ = some (.int .i64 t) ∧ w3.cell? ⟨g2, k, none⟩ = some (.int .i64 (i : Int)) ∧ w3.frozen? ⟨g2, k, none⟩ = false) := by
          intro w3 hq
          have h3 := HPQ.out.below (quietBelow hq _)
          have hr3 := h3.rows x
          rw [HPP.out, HQ1.out, HLL.out, HF2.out] at hr3
          refine ⟨h3.blk.cell rfl, by rw [← HF2.out]; exact h3.place HPL.out, rowCell hr3 ?_, rowCell hr3 ?_, rowFree hr3 k⟩
          · rw [List.getElem?_map, getD_some (S1.watch x) 0 Lm (by rw [HLL.out]; omega), HT.out]; rfl
          · rw [List.getElem?_map, HHI.out]; rfl
        clear hP2 HP2 q1 q2 q3 hf2 hfp hLm ht c3 c4 c5 HR
        go_wp2
        refine wp_region_still_tail 19 (by kernel_rfl) (by kernel_rfl) ?_
        simp only [List.take_succ_cons, List.take_zero, List.drop_succ_cons, List.drop_zero]
        generalize hw3 : World.mk w2.heap w2.tape _ _ _ = w3
        have hq3 : QuietTo w2 w3 := ⟨1, by rw [← hw3]; simp [World.drewN]⟩
        obtain ⟨s1, s2, s3, s4, s5⟩ := HST.out w3 hq3
        have HW3 := Lib.hid hq3
        clear hw3 hq3 d3 d4
        repeat (refine wpStill_step (fun K hK => ?_); go_simp; refine hK _ ?_; clear hK K)
        refine wpStill_nil ?_
        have HS4 : Hid (∀ w4, QuietTo (w3.setCell ⟨g2, k, none⟩ (.int .i64 t)) w4 → w4.cell? ⟨m.pb, 3, none⟩ = some (.slice (some ⟨m.wb, 0, none⟩) (2 * m.n + 2) (2 * m.n + 2)) ∧ w4.cell? ⟨m.wb, p, none⟩ = some (.slice (some ⟨g2, 0, none⟩) Ll c2) ∧ w4.frozen? ⟨m.wb, p, none⟩ = false) := by
          rintro w4 ⟨q, rfl⟩
          have h3 := HPQ.out.below (quietBelow HW3.out _)
          have hg : own m f2 tv1 cv (placeN x + 5) = some g2 := by show (f2 (placeN x)).ownBlock = _; rw [HPP.out, HF2.out]; rfl
          have n0 : m.pb ≠ g2 := h3.ne (i := 0) (j := placeN x + 5) rfl hg (by omega)
          have n2 : m.wb ≠ g2 := h3.ne (i := 2) (j := placeN x + 5) rfl hg (by omega)
          have e0 : ((w3.setCell ⟨g2, k, none⟩ (.int .i64 t)).drewN q).heap[m.pb]? = w3.heap[m.pb]? := setCell_block w3 ⟨g2, k, none⟩ _ n0
          have e2 : ((w3.setCell ⟨g2, k, none⟩ (.int .i64 t)).drewN q).heap[m.wb]? = w3.heap[m.wb]? := setCell_block w3 ⟨g2, k, none⟩ _ n2
          exact ⟨(World.cell?_of_block (a := ⟨m.pb, 3, none⟩) e0).trans (h3.blk.cell rfl), (World.cell?_of_block (a := ⟨m.wb, p, none⟩) e2).trans (by rw [← HF2.out]; exact h3.place HPL.out), (World.frozen?_of_block (a := ⟨m.wb, p, none⟩) e2).trans (h3.wt.free p)⟩
        go_wp2
        refine wp_region_still_tail 15 (by kernel_rfl) (by kernel_rfl) ?_
        simp only [List.take_succ_cons, List.take_zero, List.drop_succ_cons, List.drop_zero]
        generalize hw4 : World.mk (w3.setCell ⟨g2, k, none⟩ (.int .i64 t)).heap _ _ _ _ = w4
        have hq4 : QuietTo (w3.setCell ⟨g2, k, none⟩ (.int .i64 t)) w4 := ⟨1, by rw [← hw4]; simp [World.drewN]⟩
        obtain ⟨r1, r2, r3⟩ := HS4.out w4 hq4
        have HFIN : Hid (PB B m (updV f2 p (.slice (some ⟨g2, 0, none⟩) Lm c2)) tv1 cv fl vs2 { S2 with watch := upd S2.watch x (swapL (S1.watch x) k) } (w4.setCell ⟨m.wb, p, none⟩ (.slice (some ⟨g2, 0, none⟩) Lm c2)) ∧ Below B w3 (w4.setCell ⟨m.wb, p, none⟩ (.slice (some ⟨g2, 0, none⟩) Lm c2))) := by
          have h3 := HPQ.out.below (quietBelow HW3.out _)
          have h4 := h3.swapped (x := x) (g := g2) (cap := c2) (k := k) (Lm := Lm) (w4 := w4) HXN.out HFP.out (by rw [HQ1.out, HLL.out, HLM.out]) (by rw [HQ1.out, HT.out]; exact hq4)
          rw [HQ1.out, HPP.out] at h4
          exact h4
        have HBF : Hid (Below B w0 (w4.setCell ⟨m.wb, p, none⟩ (.slice (some ⟨g2, 0, none⟩) Lm c2))) := ((HB.out.trans HB2.out).trans (quietBelow HW3.out B)).trans HFIN.out.2
        have HMF : Hid (lenAt (w4.setCell ⟨m.wb, p, none⟩ (.slice (some ⟨g2, 0, none⟩) Lm c2)) ⟨m.wb, p, none⟩ = Lm) := by
          refine lenAt_of (a := some ⟨g2, 0, none⟩) (c := c2) ?_
          have h1 := HFIN.out.1.place HPL.out
          rw [updV_same] at h1
          exact h1
        clear hw4 hq4 s1 s2 s3 s4 s5
        repeat (refine wpStill_step (fun K hK => ?_); go_simp; refine hK _ ?_; clear hK K)
        refine wpStill_nil ?_
        go_wp2
        go_roundw
        case rel => exact ⟨k, _, rfl, ⟨_, _, _, HFIN.out.1⟩, HQ3.out, HBF⟩
        case measure => rw [HMF.out, HM.out]; simp [intOf]; omega
      · -- it stays
        obtain ⟨q1, q2, ⟨e2, q3, q4⟩, q5, q6, q7⟩ := HL.out.stay (by rw [HLL.out]; exact hlt) HDR.out HE.out hpost
        have hgc := HGC.out
        subst hgc
        have d4 : w2.cell? ⟨m.pb, 4, none⟩ = some (.slice (some ⟨g, 0, none⟩) S1.cls.length cap) := hP2.blk.cell rfl
        obtain ⟨_, _, t0, t1, _⟩ := hP2.cl q3
        have HOT := Lib.hid (other_is (w := w2) (p := ⟨g, i * 4, none⟩) rfl t0 t1 q4)
        have hoo := HOKY.out _ HO.out
        have HLN := Lib.hid (blearn_any hP2 (x := otherB e x) hoo.2 HNN.out (fun _ => by have := q5.room; have := HNN.out; omega))
        have HQ6 := Lib.hid q6
        have HQ7 := Lib.hid q7
        obtain ⟨o, ho⟩ : ∃ o, otherB e x = o := ⟨_, rfl⟩
        rw [ho] at HOT HLN HQ6 HQ7
        obtain ⟨lb, hlb⟩ : ∃ lb, (learnB S2 o).2 = lb := ⟨_, rfl⟩
        rw [hlb] at HLN HQ6 HQ7
        have HMW : Hid ((learnB S2 o).1.watch = S1.watch) := by
          unfold Hid
          rw [← q1]; unfold learnB; split <;> rfl
        clear hP2 HP2 q1 q2 q3 q4 q5 q6 q7 t0 t1 hoo ho hlb c3 c4 c5 HR
        go_wp2_with fail
        refine HOT.out.mono ?_
        rintro e' w3 ⟨rfl, rfl⟩
        go_wp2_with fail
        refine HLN.out.mono ?_
        rintro e' w3 ⟨rfl, ⟨tv3, hP3, _⟩, hB3⟩
        have HP3 := Lib.hid hP3
        have HB3 := Lib.hid ((HB.out.trans HB2.out).trans hB3)
        clear hP3 hB3 HLN HOT d4
        have hbb : lb = true ∨ lb = false := by cases lb <;> simp
        rcases hbb with rfl | rfl
        · have HN := Lib.hid (HQ6.out rfl)
          have HM3 : Hid (lenAt w3 ⟨m.wb, p, none⟩ = Ll) := by
            obtain ⟨a9, c9, h9⟩ := cvForm (HP3.out.rows x)
            refine lenAt_of (a := a9) (c := c9) ?_
            have h1 := HP3.out.place HPL.out
            rw [← HPP.out, h9, HMW.out, HLL.out, HPP.out] at h1
            exact h1
          clear HQ6 HQ7
          go_wp2
          go_roundw
          case rel => exact ⟨k + 1, _, by go_num, ⟨_, _, _, HP3.out⟩, HN.out, HB3⟩
          case measure => rw [HM3.out, HM.out]; simp [intOf]; omega
        · have HN := Lib.hid (HQ7.out rfl)
          clear HQ6 HQ7
          go_wp2
          go_ret
          exact ⟨false, _, k, rfl, HN.out.1, (fun h => by cases h), fun _ => HN.out.2, ⟨_, _, _, HP3.out⟩, HB3⟩
    · have hke : k = Ll := by omega
      obtain ⟨ra, rc, hra⟩ := cvForm (hP1.rows x)
      rw [HPP.out, hLl] at hra
      rw [hra] at c4
      have HFK : Hid (k = (S1.watch x).length) := by unfold Hid; rw [hLl]; exact hke
      have HP9 := Lib.hid hP1
      clear hP1 HPE hra hLl hfew hlen hkl hke
      go_wp2
      go_ret
      exact ⟨true, S1, k, rfl, HL.out, fun _ => HFK.out, (fun h => by cases h), ⟨_, _, _, HP9.out⟩, HB⟩

/-! RupI -/
/-- Nothing is assumed, and all that follows is known. -/
structure Base (G : List (List Int)) (n : Nat) (S : Sb) : Prop where
  inv : Jnv G [] n [] S 0 []
  lk : S.looked = S.trail.length
  cov : Cover G S.trail S.cls

section
variable {G : List (List Int)} {n : Nat} {S S2 : Sb}
theorem Base.done (H : Base G n S) {x : Int} : S.done x ↔ S.kn x := by
  unfold Sb.done; rw [H.lk, List.take_length]; exact (H.inv.tr x).symm
theorem Base.enter (H : Base G n S) (A : List Int) : Jnv G A n S.trail S 0 [] := by
  refine { H.inv with root := List.prefix_rfl, der := fun x hx => (H.inv.der x hx).mono (fun _ h => h) (by simp), wa := H.inv.wa, rt := fun i e he => ?_ }
  have hok := H.inv.from_ i e he
  have hl := H.inv.ok _ hok.mem
  have hw := H.inv.wa i e he
  have g : ∀ l o, l ≠ 0 → S.wt 0 [] i l o → -l ∈ S.trail → o ∈ S.trail := fun l o hl0 h hm => by
    unfold Sb.wt at h
    rw [if_neg (by omega)] at h
    rcases h with h | h
    · exact (H.inv.tr o).1 h
    · exact absurd (H.done.2 ((H.inv.tr _).2 hm)) h
  exact ⟨g _ _ (hl _ hok.ha).1 hw.1, g _ _ (hl _ hok.hb).1 hw.2⟩
theorem Base.fails (H : Base G n S) {A : List Int} {cur : Int} (J : Jnv G A n S.trail S2 cur []) (hcur : cur = 0) (hl : S2.cls.map Cb.lits = S.cls.map Cb.lits) (hq : S2.looked = S2.trail.length) (hA : ∀ x ∈ A, S2.kn x) : ¬ Fails G A := by
  subst hcur
  refine J.fine hq (K := S.trail) (fun x hx => J.rootk hx) (fun c hc => ?_) hA
  rcases H.cov c hc with ⟨i, e, he, h⟩ | h
  · left
    have h1 : (S2.cls.map Cb.lits)[i]? = some e.lits := by rw [hl, List.getElem?_map, he]; rfl
    rw [List.getElem?_map] at h1
    cases h2 : S2.cls[i]? with
    | none => rw [h2] at h1; cases h1
    | some e2 => rw [h2] at h1; exact ⟨i, e2, h2, (Option.some.inj h1).trans h⟩
  · exact .inr h

/-- What is known without some literals. -/
def wipe (k q : List Int) : List Int := q.foldl (fun k x => k.set x.natAbs 0) k
theorem wipe_snoc (k q : List Int) (x : Int) : wipe k (q ++ [x]) = (wipe k q).set x.natAbs 0 := by unfold wipe; rw [List.foldl_append]; rfl
theorem wipe_len : ∀ (q k : List Int), (wipe k q).length = k.length
  | [], _ => rfl
  | x :: q, k => by
    have := wipe_len q (k.set x.natAbs 0)
    rw [List.length_set] at this
    exact this
theorem wipe_getD : ∀ (q k : List Int) (v : Nat), (wipe k q).getD v 0 = if v ∈ q.map Int.natAbs then 0 else k.getD v 0
  | [], k, v => by simp [wipe]
  | x :: q, k, v => by
    have h := wipe_getD q (k.set x.natAbs 0) v
    have e : wipe k (x :: q) = wipe (k.set x.natAbs 0) q := rfl
    rw [e, h]
    by_cases h1 : v ∈ q.map Int.natAbs
    · rw [if_pos h1, if_pos (by rw [List.map_cons]; exact List.mem_cons_of_mem _ h1)]
    · rw [if_neg h1]
      by_cases h2 : v = x.natAbs
      · rw [if_pos (by rw [List.map_cons, h2]; exact List.mem_cons_self), List.getD_eq_getElem?_getD, List.getElem?_set, if_pos h2.symm]
        split <;> rfl
      · rw [if_neg (by rw [List.map_cons, List.mem_cons]; rintro (h | h); exact h2 h; exact h1 h), List.getD_eq_getElem?_getD, List.getElem?_set, if_neg (Ne.symm h2), ← List.getD_eq_getElem?_getD]

/-- What became known is taken back. -/
theorem Base.left (H : Base G n S) {A : List Int} {cur : Int} {todo q : List Int} (J : Jnv G A n S.trail S2 cur todo) (hl : S2.cls.map Cb.lits = S.cls.map Cb.lits) (hq : S2.trail = S.trail ++ q) :
    Base G n { S2 with known := wipe S2.known q, trail := S.trail, looked := S.trail.length } := by
  have hkat : ∀ x, kat (wipe S2.known q) x = if x.natAbs ∈ q.map Int.natAbs then 0 else kat S2.known x := fun x => by unfold kat; exact wipe_getD q S2.known x.natAbs
  have hnd := J.tnd
  rw [hq] at hnd
  have hdis := (List.nodup_append.1 hnd).2.2
  have hR : ∀ x ∈ S.trail, x.natAbs ∉ q.map Int.natAbs := fun x hx hm => by
    obtain ⟨y, hy, he⟩ := List.mem_map.1 hm
    have h1 := ((J.tr x).2 (by rw [hq]; exact List.mem_append_left _ hx)).2
    have h2 := ((J.tr y).2 (by rw [hq]; exact List.mem_append_right _ hy)).2
    unfold kat at h1 h2
    rw [he] at h2
    exact hdis x hx y hy (h1.symm.trans h2)
  have hkn : ∀ x, Sb.kn { S2 with known := wipe S2.known q, trail := S.trail, looked := S.trail.length } x ↔ x ∈ S.trail := fun x => by
    unfold Sb.kn
    dsimp only
    rw [hkat]
    constructor
    · rintro ⟨h0, h1⟩
      by_cases hm : x.natAbs ∈ q.map Int.natAbs
      · rw [if_pos hm] at h1; exact absurd h1.symm h0
      · rw [if_neg hm] at h1
        have h2 := (J.tr x).1 ⟨h0, h1⟩
        rw [hq] at h2
        rcases List.mem_append.1 h2 with h | h
        · exact h
        · exact absurd (List.mem_map_of_mem h) hm
    · intro hx
      have h2 := (J.tr x).2 (by rw [hq]; exact List.mem_append_left _ hx)
      exact ⟨h2.1, by rw [if_neg (hR x hx)]; exact h2.2⟩
  refine ⟨⟨by rw [wipe_len]; exact J.len, ?_, fun v => ?_, hkn, H.inv.tnd, Nat.le_refl _, List.nil_prefix, J.ok, fun x hx => H.inv.der x ((H.inv.tr x).2 ((hkn x).1 hx)), J.from_, J.wmem, J.wi, J.wnd, .inl rfl, fun i e he => ?_, fun i e _ => by simp⟩, rfl, fun c hc => ?_⟩
  · rw [wipe_getD]; split
    · rfl
    · exact J.zero
  · dsimp only
    rw [wipe_getD]; split
    · exact .inl rfl
    · exact J.var v
  · have hok := J.from_ i e he
    have hl0 := J.ok _ hok.mem
    have hr := J.rt i e he
    have g : ∀ l o, l ≠ 0 → (-l ∈ S.trail → o ∈ S.trail) → Sb.wt { S2 with known := wipe S2.known q, trail := S.trail, looked := S.trail.length } 0 [] i l o := fun l o h0 h => by
      unfold Sb.wt
      rw [if_neg (by omega), hkn]
      by_cases hm : -l ∈ S.trail
      · exact .inl (h hm)
      · right; unfold Sb.done; dsimp only; rw [List.take_length]; exact hm
    exact ⟨g _ _ (hl0 _ hok.ha).1 hr.1, g _ _ (hl0 _ hok.hb).1 hr.2⟩
  · rcases H.cov c hc with ⟨i, e, he, h⟩ | h
    · left
      have h1 : (S2.cls.map Cb.lits)[i]? = some e.lits := by rw [hl, List.getElem?_map, he]; rfl
      rw [List.getElem?_map] at h1
      cases h2 : S2.cls[i]? with
      | none => rw [h2] at h1; cases h1
      | some e2 => rw [h2] at h1; exact ⟨i, e2, h2, (Option.some.inj h1).trans h⟩
    · exact .inr h

/-- With one clause more. -/
theorem Jnv.widen {A R : List Int} {cur : Int} {todo : List Int} {c : List Int} (J : Jnv G A n R S cur todo) (hc : ∀ x ∈ c, x ≠ 0 ∧ x.natAbs ≤ n) : Jnv (G ++ [c]) A n R S cur todo :=
  { J with
    ok := fun d hd => by
      rcases List.mem_append.1 hd with h | h
      · exact J.ok d h
      · rw [List.mem_singleton] at h; subst h; exact hc
    der := fun x hx => (J.der x hx).mono (fun d hd => List.mem_append_left _ hd) (fun _ h => h)
    from_ := fun i e he => let h := J.from_ i e he; ⟨List.mem_append_left _ h.mem, h.ne, h.ha, h.hb, h.nx⟩ }
theorem Base.none (H : Base G n S) {c : List Int} (hall : ∀ z ∈ c, S.kn (-z)) : Fails (G ++ [c]) [] := by
  cases c with
  | nil => exact .inl (by simp)
  | cons z l =>
    have hd : ∀ y ∈ z :: l, Der (G ++ [z :: l]) [] (-y) := fun y hy => (H.inv.der _ (hall y hy)).mono (fun d hd => List.mem_append_left _ hd) (fun _ h => h)
    exact .inr ⟨z, .unit (by simp) List.mem_cons_self (fun y hy _ => hd y hy), hd z List.mem_cons_self⟩
/-- One literal is left. -/
theorem Base.one (H : Base G n S) {c : List Int} {x : Int} (hc : ∀ x ∈ c, x ≠ 0 ∧ x.natAbs ≤ n) (hx : x ∈ c) (hn : ¬ S.kn (-x)) (hall : ∀ z ∈ c, z = x ∨ S.kn (-z)) :
    (learnB S x).2 = true ∧ Jnv (G ++ [c]) [] n [] (learnB S x).1 0 [] ∧ (learnB S x).1.kn x ∧ (∀ y, S.kn y → (learnB S x).1.kn y) ∧ (learnB S x).1.cls = S.cls := by
  have hx0 := hc x hx
  have hder : Der (G ++ [c]) [] x := .unit (by simp) hx fun y hy hne => (H.inv.der _ ((hall y hy).resolve_left hne)).mono (fun d hd => List.mem_append_left _ hd) (fun _ h => h)
  obtain ⟨J, h1, h2, h3, h4, _, _⟩ := (H.inv.widen hc).learn hx0.1 hx0.2 hder
  have ht : (learnB S x).2 = true := by
    unfold learnB
    split
    · rfl
    · rename_i h0
      exact decide_eq_true (Decidable.byContradiction fun hne => hn (H.inv.neg_of h0 hne))
  exact ⟨ht, J, h2 ht, h1, h4⟩
theorem Base.oneDone (H : Base G n S) {c : List Int} {x : Int} (hx : x ∈ c) {S' : Sb} (J : Jnv (G ++ [c]) [] n [] S' 0 []) (hq : S'.looked = S'.trail.length) (hk : S'.kn x) (hm : ∀ y, S.kn y → S'.kn y) (hl : S'.cls.map Cb.lits = S.cls.map Cb.lits) : Base (G ++ [c]) n S' := by
  refine ⟨J, hq, fun d hd => ?_⟩
  rcases List.mem_append.1 hd with h | h
  · rcases H.cov d h with ⟨i, e, he, h⟩ | ⟨z, hz, h⟩
    · left
      have h1 : (S'.cls.map Cb.lits)[i]? = some e.lits := by rw [hl, List.getElem?_map, he]; rfl
      rw [List.getElem?_map] at h1
      cases h2 : S'.cls[i]? with
      | none => rw [h2] at h1; cases h1
      | some e2 => rw [h2] at h1; exact ⟨i, e2, h2, (Option.some.inj h1).trans h⟩
    · exact .inr ⟨z, hz, (J.tr z).1 (hm z ((H.inv.tr z).2 h))⟩
  · rw [List.mem_singleton] at h
    subst h
    exact .inr ⟨x, hx, (J.tr x).1 hk⟩
/-- Two are left: they are watched. -/
theorem Base.two (H : Base G n S) {c : List Int} {x y : Int} (hc : ∀ x ∈ c, x ≠ 0 ∧ x.natAbs ≤ n) (hx : x ∈ c) (hy : y ∈ c) (hxy : x ≠ y) (hnx : ¬ S.kn (-x)) (hny : ¬ S.kn (-y)) :
    Base (G ++ [c]) n { S with cls := S.cls ++ [⟨x, y, c, 0⟩], watch := upd (upd S.watch x (S.watch x ++ [(S.cls.length : Int)])) y (S.watch y ++ [(S.cls.length : Int)]) } := by
  have hJ := H.inv.widen hc
  have hnew : ∀ l, (S.cls.length : Int) ∉ S.watch l := fun l h => by
    obtain ⟨j, e, h1, h2, _⟩ := hJ.wi l _ h
    have := (List.getElem?_eq_some_iff.1 h2).1
    omega
  have hwm : ∀ l z, z ∈ upd (upd S.watch x (S.watch x ++ [(S.cls.length : Int)])) y (S.watch y ++ [(S.cls.length : Int)]) l ↔ z ∈ S.watch l ∨ ((l = x ∨ l = y) ∧ z = (S.cls.length : Int)) := fun l z => by
    by_cases hly : l = y
    · rw [hly, upd_same, List.mem_append, List.mem_singleton]; simp
    · rw [upd_other _ _ hly]
      by_cases hlx : l = x
      · rw [hlx, upd_same, List.mem_append, List.mem_singleton]; simp
      · rw [upd_other _ _ hlx]; simp [hlx, hly]
  have hcl : ∀ (i : Nat) e, (S.cls ++ [⟨x, y, c, 0⟩])[i]? = some e → S.cls[i]? = some e ∨ (i = S.cls.length ∧ e = ⟨x, y, c, 0⟩) := fun i e h => (getElem?_snoc _ _ _ _).1 h
  refine ⟨⟨hJ.len, hJ.zero, hJ.var, hJ.tr, hJ.tnd, hJ.lk, hJ.root, hJ.ok, hJ.der, fun i e he => ?_, fun i e he => ?_, fun l z hz => ?_, fun l => ?_, .inl rfl, fun i e he => ?_, fun i e _ => by simp⟩, H.lk, fun d hd => ?_⟩
  · rcases hcl i e he with h | ⟨rfl, rfl⟩
    · exact hJ.from_ i e h
    · exact ⟨by simp, hxy, hx, hy, List.length_pos_of_mem hx⟩
  · dsimp only
    rw [hwm, hwm]
    rcases hcl i e he with h | ⟨rfl, rfl⟩
    · exact (hJ.wmem i e h).imp .inl .inl
    · exact ⟨.inr ⟨.inl rfl, rfl⟩, .inr ⟨.inr rfl, rfl⟩⟩
  · dsimp only at hz
    rw [hwm] at hz
    rcases hz with h | ⟨h, rfl⟩
    · obtain ⟨j, e, h1, h2, h3⟩ := hJ.wi l z h
      exact ⟨j, e, h1, by dsimp only; rw [List.getElem?_append_left (List.getElem?_eq_some_iff.1 h2).1]; exact h2, h3⟩
    · exact ⟨S.cls.length, ⟨x, y, c, 0⟩, rfl, by simp, h⟩
  · dsimp only
    have hap : ∀ l, (S.watch l ++ [(S.cls.length : Int)]).Nodup := fun l => List.nodup_append.2 ⟨hJ.wnd l, by simp, fun a ha b hb => by
      rw [List.mem_singleton] at hb
      rintro rfl
      exact hnew l (hb ▸ ha)⟩
    by_cases hly : l = y
    · rw [hly, upd_same]; exact hap y
    · rw [upd_other _ _ hly]
      by_cases hlx : l = x
      · rw [hlx, upd_same]; exact hap x
      · rw [upd_other _ _ hlx]; exact hJ.wnd l
  · rcases hcl i e he with h | ⟨rfl, rfl⟩
    · exact hJ.wa i e h
    · have g : ∀ l o, l ∈ c → ¬ S.kn (-l) → Sb.wt { S with cls := S.cls ++ [⟨x, y, c, 0⟩], watch := upd (upd S.watch x (S.watch x ++ [(S.cls.length : Int)])) y (S.watch y ++ [(S.cls.length : Int)]) } 0 [] S.cls.length l o := fun l o hl h => by
        unfold Sb.wt
        rw [if_neg (by have := (hc l hl).1; omega)]
        exact .inr fun hd => h (Sb.done_kn hJ hd)
      exact ⟨g x y hx hnx, g y x hy hny⟩
  · rcases List.mem_append.1 hd with h | h
    · rcases H.cov d h with ⟨i, e, he, h⟩ | h
      · exact .inl ⟨i, e, by dsimp only; rw [List.getElem?_append_left (List.getElem?_eq_some_iff.1 he).1]; exact he, h⟩
      · exact .inr h
    · rw [List.mem_singleton] at h
      subst h
      exact .inl ⟨S.cls.length, ⟨x, y, d, 0⟩, by simp, rfl⟩
theorem Base.start (n : Nat) : Base [] n ⟨List.replicate (n + 1) 0, [], 0, fun _ => [], []⟩ := by
  have hz : ∀ v : Nat, (List.replicate (n + 1) (0 : Int)).getD v 0 = 0 := fun v => by
    rw [List.getD_eq_getElem?_getD, List.getElem?_replicate]; split <;> rfl
  have hk : ∀ x, ¬ Sb.kn ⟨List.replicate (n + 1) 0, [], 0, fun _ => [], []⟩ x := fun x h => h.1 (by have := h.2; unfold kat at this; rw [hz] at this; exact this.symm)
  exact ⟨⟨by simp, hz 0, fun v => .inl (hz v), fun x => ⟨fun h => (hk x h).elim, by simp⟩, by simp, by simp, by simp, by simp, fun x h => (hk x h).elim, by simp, by simp, by simp, by simp, .inl rfl, by simp, by simp⟩, rfl, fun c hc => by simp at hc⟩
end

/-! RupJ -/
def measB (w : World) (pb kb : Nat) : Nat :=
  2 * (match w.heap[kb]? with | some (.cells xs _ _) => xs.toList.countP isZ | _ => 0) + lenAt w ⟨pb, 1, none⟩ - (match w.cell? ⟨pb, 2, none⟩ with | some v => (intOf v).toNat | _ => 0)
section
variable {B : Nat} {m : Mb} {f : Nat → Value} {tv cv : Value} {fl : Bool} {vs : List Value} {S : Sb} {w : World}
theorem PB.meas (h : PB B m f tv cv fl vs S w) : measB w m.pb m.kb = bm S := by
  unfold measB
  have h1 := h.kn
  unfold Blk at h1
  obtain ⟨ta, tc, ht⟩ := cvForm h.tr
  have h2 : w.cell? ⟨m.pb, 1, none⟩ = some (.slice ta S.trail.length tc) := by rw [← ht]; exact h.blk.cell rfl
  have h3 : w.cell? ⟨m.pb, 2, none⟩ = some (.int .i64 S.looked) := h.blk.cell rfl
  rw [h1, lenAt_of h2, h3]
  have := countP_isZ S.known
  simp only [bm, intOf, Int.toNat_natCast]
  omega

/-- What run has done. -/
def RunPost (G : List (List Int)) (A : List Int) (n : Nat) (R : List Int) (S S' : Sb) (b : Bool) : Prop :=
  (∃ cur todo, Jnv G A n R S' cur todo) ∧ S'.cls.map Cb.lits = S.cls.map Cb.lits ∧ (∀ y, S.kn y → S'.kn y) ∧ (b = true → Jnv G A n R S' 0 [] ∧ S'.looked = S'.trail.length) ∧ (b = false → Fails G A)
/-- On the way. -/
def RunSo (G : List (List Int)) (A : List Int) (n : Nat) (R : List Int) (S S1 : Sb) : Prop :=
  Jnv G A n R S1 0 [] ∧ S1.cls.map Cb.lits = S.cls.map Cb.lits ∧ ∀ y, S.kn y → S1.kn y

set_option maxRecDepth 100000 in
set_option maxHeartbeats 4000000 in
theorem brun_any (h : PB B m f tv cv fl vs S w) {G : List (List Int)} {A R : List Int} (J : Jnv G A m.n R S 0 []) (hnn : m.n ≤ 1000000) (hcl : S.cls.length ≤ 1000000000) :
    Calls Try.prog 66 #[.pointer (some ⟨m.pb, 0, none⟩)] w fun e w' => ∃ b S', e = .returned (.bool b) ∧ RunPost G A m.n R S S' b ∧ Hid (∃ f' tv' vs', PB B m f' tv' cv fl vs' S' w') ∧ Hid (Below B w w') := by
  have HP := Lib.hid h
  have HJ : Hid (RunSo G A m.n R S S) := ⟨J, rfl, fun _ h => h⟩
  have HNN := Lib.hid hnn
  have HCL := Lib.hid hcl
  clear h J hnn hcl
  go_enter Try.func66, Try.ntmps66
  go_wp2
  go_loopw [3] (fun x3 wr => ∃ S1 : Sb, Hid (∃ f1 tv1 vs1, PB B m f1 tv1 cv fl vs1 S1 wr) ∧ Hid (RunSo G A m.n R S S1) ∧ Hid (Below B w wr)) (fun _ wr => measB wr m.pb m.kb)
  case atStart => exact ⟨S, ⟨_, _, _, HP.out⟩, HJ, Below.refl _ _⟩
  case round =>
    obtain ⟨S1, HPE, HI, HB⟩ := hrel
    obtain ⟨f1, tv1, vs1, hP1⟩ := HPE.out
    obtain ⟨ta, tc, ht⟩ := cvForm hP1.tr
    obtain ⟨tl, htl⟩ : ∃ tl, S1.trail.length = tl := ⟨_, rfl⟩
    obtain ⟨lk, hlk⟩ : ∃ lk, S1.looked = lk := ⟨_, rfl⟩
    have hroom := HI.out.1.room
    have hlkt := HI.out.1.lk
    have hnn := HNN.out
    rw [htl] at hroom hlkt
    rw [hlk] at hlkt
    have c1 : wr.cell? ⟨m.pb, 1, none⟩ = some (.slice ta tl tc) := by rw [← htl, ← ht]; exact hP1.blk.cell rfl
    have c2 : wr.cell? ⟨m.pb, 2, none⟩ = some (.int .i64 lk) := by rw [← hlk]; exact hP1.blk.cell rfl
    have HTL := Lib.hid htl
    have HLK := Lib.hid hlk
    have HM := Lib.hid hP1.meas
    by_cases hlt : lk < tl
    · obtain ⟨gt, ct, htf, _⟩ := hP1.tr.form (by omega)
      have hta : ta = some ⟨gt, 0, none⟩ := by rw [htf] at ht; injection ht with h1 _ _; exact h1.symm
      subst hta
      obtain ⟨x, hx⟩ : ∃ x, S1.trail[lk]? = some x := ⟨_, List.getElem?_eq_getElem (by omega)⟩
      have hrow := hP1.tr
      rw [htf] at hrow
      have c5 : wr.cell? ⟨gt, lk, none⟩ = some (.int .i64 x) := rowCell hrow (by rw [List.getElem?_map, hx]; rfl)
      have hxk : S1.kn x := (HI.out.1.tr x).2 (List.mem_of_getElem? hx)
      have hxn := HI.out.1.knle hxk
      have hlI : (lk : Int) < (tl : Int) := by omega
      have hl0 : (0 : Int) ≤ (lk : Int) := by omega
      obtain ⟨lk1, hlk1⟩ : ∃ lk1, lk + 1 = lk1 := ⟨_, rfl⟩
      have hw1 : IntKind.i64.wrap (↑lk + 1) = (lk1 : Int) := by rw [← hlk1]; exact IntWalk.i64_in _ (by omega)
      have hw2 : (lk : Int) + 1 = (lk1 : Int) := by omega
      have hb1 : (0 : Int) ≤ (lk1 : Int) := by omega
      have hb2 : (lk1 : Int) ≤ 1000001 := by omega
      have hx1 : -1000000 ≤ x := by omega
      have hx2 : x ≤ 1000000 := by omega
      have HLK1 := Lib.hid hlk1
      have HX := Lib.hid hx
      have HXK : Hid (x ≠ 0 ∧ x.natAbs ≤ m.n) := ⟨hxk.1, hxn⟩
      have HP1 := Lib.hid hP1
      have HST : Hid (∀ wb, QuietTo wr wb → wb.cell? ⟨m.pb, 1, none⟩ = some (.slice (some ⟨gt, 0, none⟩) tl tc) ∧ wb.cell? ⟨m.pb, 2, none⟩ = some (.int .i64 lk) ∧ wb.cell? ⟨gt, lk, none⟩ = some (.int .i64 x) ∧ wb.frozen? ⟨m.pb, 2, none⟩ = false) := by
        rintro wb ⟨q, rfl⟩
        exact ⟨c1, c2, c5, HP1.out.blk.free 2⟩
      clear hP1 HPE ht htl hlk hroom hlkt htf hx hrow hxk hxn hlk1 hnn
      go_wp2
      go_quiet (fail)
      generalize hwb : wr.drewN nq = wb
      have hqb : QuietTo wr wb := ⟨nq, hwb.symm⟩
      obtain ⟨d1, d2, d5, d6⟩ := HST.out wb hqb
      have HQB := Lib.hid hqb
      clear hwb hqb c1 c2 c5
      go_wp2
      go_quiet (fail)
      generalize hwa : wb.drewN nq = wa
      have hqa : QuietTo wr wa := by
        obtain ⟨q1, h1⟩ := HQB.out
        exact ⟨q1 + nq, by rw [← hwa, h1]; simp [World.drewN, Nat.add_assoc]⟩
      obtain ⟨e1, e2, e5, e6⟩ := HST.out wa hqa
      have hfld := (HP1.out.below (quietBelow hqa _)).field (i := 2) (u := .int .i64 lk1) (fl' := fl) (S' := { S1 with looked := lk1 }) rfl rfl rfl rfl rfl
      have HQA := Lib.hid hqa
      have hJ := HI.out.1.look (x := x) (by rw [HLK.out]; exact HX.out)
      rw [HLK.out, HLK1.out] at hJ
      have HS2 : Hid (bm ({ S1 with looked := lk1 } : Sb) < bm S1) := by
        have := HLK1.out
        have := HLK.out
        have := HTL.out
        unfold Hid bm
        dsimp only
        omega
      have HLI : Hid (({ S1 with looked := lk1 } : Sb).cls.map Cb.lits = S.cls.map Cb.lits ∧ ∀ y, S.kn y → Sb.kn { S1 with looked := lk1 } y) := ⟨HI.out.2.1, fun y hy => HI.out.2.2 y hy⟩
      generalize hS2 : ({ S1 with looked := lk1 } : Sb) = S2 at hfld hJ HS2 HLI
      have hw9 : S1.watch (-x) = S2.watch (-x) := by rw [← hS2]
      rw [hw9, show x = -(-x) by omega] at hJ
      rw [show -(-(-x)) = -x by omega] at hJ
      have hlen2 : S2.cls.length ≤ 1000000000 := by
        have h9 := congrArg List.length HLI.out.1
        simp only [List.length_map] at h9
        have := HCL.out
        omega
      have HLV := Lib.hid (leave_any hfld.1 (x := -x) hJ (by have := HXK.out.1; omega) (by have := HXK.out.2; omega) HNN.out hlen2)
      have HBF := Lib.hid ((HB.out.trans (quietBelow HQA.out B)).trans hfld.2)
      clear hwa hqa hfld hJ hS2 hw9 hlen2 d1 d2 d5 d6 e1 e5
      go_wp2_with fail
      refine HLV.out.mono ?_
      rintro e' w' ⟨bb, S3, k, rfl, hL, hT, hF, HP3, HB3⟩
      have HL := Lib.hid hL
      have HT := Lib.hid hT
      have HF := Lib.hid hF
      have HBW := Lib.hid (HBF.out.trans HB3.out)
      have HL3 : Hid (S3.cls.map Cb.lits = S.cls.map Cb.lits ∧ ∀ y, S.kn y → S3.kn y) := ⟨HL.out.2.2.2.1.trans HLI.out.1, fun y hy => HL.out.2.2.2.2.1 y (HLI.out.2 y hy)⟩
      clear hL hT hF HLV e2 e6
      have hbb : bb = true ∨ bb = false := by cases bb <;> simp
      rcases hbb with rfl | rfl
      · have HR : Hid (RunSo G A m.n R S S3) := by
          have hk := HT.out rfl
          have h1 := HL.out.1
          rw [hk, List.drop_length] at h1
          exact ⟨h1.stop, HL3.out.1, HL3.out.2⟩
        have HM3 : Hid (measB w' m.pb m.kb < measB wr m.pb m.kb) := by
          obtain ⟨f3, tv3, vs3, h3⟩ := HP3.out
          unfold Hid
          rw [h3.meas, HM.out]
          exact Nat.lt_of_le_of_lt HL.out.2.2.2.2.2 HS2.out
        clear HT HF
        go_wp2
        go_roundw
        case rel => exact ⟨S3, HP3, HR, HBW⟩
        case measure => exact HM3.out
      · have HFA := Lib.hid (HF.out rfl)
        clear HT HF
        go_wp2
        go_ret
        exact ⟨false, S3, rfl, ⟨⟨_, _, HL.out.1⟩, HL3.out.1, HL3.out.2, (fun h => by cases h), fun _ => HFA.out⟩, HP3, HBW⟩
    · have HE : Hid (S1.looked = S1.trail.length) := by unfold Hid; rw [hlk, htl]; omega
      have hlI : ¬ (lk : Int) < (tl : Int) := by omega
      have HP9 := Lib.hid hP1
      clear hP1 HPE ht htl hlk hroom hlkt hnn
      go_wp2
      go_quiet (fail)
      go_wp2
      go_ret
      have h9 := HP9.out.below (quietBelow ⟨nq, rfl⟩ _ : Below wr.heap.size wr (wr.drewN nq))
      exact ⟨true, S1, rfl, ⟨⟨_, _, HI.out.1⟩, HI.out.2.1, HI.out.2.2, fun _ => ⟨HI.out.1, HE.out⟩, (fun h => by cases h)⟩, ⟨_, _, _, h9⟩, HB.out.trans (quietBelow ⟨nq, rfl⟩ B)⟩
end
end Go.Proofs.Ytbljkbdbiceokaa
