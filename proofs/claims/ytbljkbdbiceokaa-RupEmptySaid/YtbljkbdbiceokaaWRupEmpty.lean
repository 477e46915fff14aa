/-
  RupEmpty: the empty clause is implied exactly if unit propagation fails; a clause exactly if it fails with its negatives.
-/
import Derived.Test.YtbljkbdbiceokaaRupW
import Derived.Deep.RegionHeld3
import Derived.Deep.DrawnRows
import Derived.Deep.CutRange
namespace Go.Proofs.Ytbljkbdbiceokaa
open Go.RowKit Go.Lib
open Go.RowKit (Below)

structure MixT (w0 w : World) (F : Nat) (V : Int) (v : Value) (G : List (List Int)) : Prop where
  f : Two w F (.int .i64 V) v
  l : MixL w0 w v G
  nf : v.ownBlock ≠ some F
  lo : w0.heap.size ≤ F
theorem MixT.on {w0 w w' : World} {F : Nat} {V : Int} {v : Value} {G : List (List Int)} (h : MixT w0 w F V v G) (hb : Below w.heap.size w w') : MixT w0 w' F V v G := ⟨h.f.below hb h.f.lt, h.l.on hb, h.nf, h.lo⟩
theorem MixT.next {w0 w : World} {F : Nat} {V : Int} {v : Value} {G Z : List (List Int)} (h : MixT w0 w F V v G) {v' : Value} {w' : World} (hM : MixL w0 w' v' (G ++ Z)) (hg : w.grownBy w' v.ownBlock) (hat : v'.ownBlock = v.ownBlock ∨ v'.ownBlock = some w.heap.size) :
    Two w' F (.int .i64 V) v ∧ MixT w0 (w'.setCell ⟨F, 1, none⟩ v') F V v' (G ++ Z) := by
  have h1 : Two w' F (.int .i64 V) v := h.f.grown hg h.nf
  have h2 : v'.ownBlock ≠ some F := by
    rcases hat with e | e
    · rw [e]; exact h.nf
    · rw [e]; intro e'; injection e' with e'; have := h.f.lt; omega
  exact ⟨h1, h1.set1 v', hM.set h.lo h2 v', h2, h.lo⟩
theorem chk_one {L : List (List Int)} {v : Int} (h : ChkV L [[]] v) : v = -1 ↔ Fails L [] := by
  have hg : AllGood L [[]] ↔ Fails L [] := by
    constructor
    · intro h
      have := h 0 (by simp) [] rfl
      rwa [List.take_zero, List.append_nil] at this
    · intro h j hj z hz
      obtain rfl : j = 0 := by simp at hj; omega
      cases hz
      rw [List.take_zero, List.append_nil]; exact h
  rcases h with ⟨k, rfl, hk⟩ | ⟨ha, rfl⟩
  · exact ⟨fun h => by omega, fun h => (hk.notAll (hg.2 h)).elim⟩
  · exact ⟨fun _ => hg.1 ha, fun _ => rfl⟩
theorem bool_same {a b : Bool} {p : Prop} (h1 : a = true ↔ p) (h2 : b = true ↔ p) : a = b := by
  cases a <;> cases b <;> simp_all
theorem unitsOf {V : Nat} (hV : V ≤ 12) {L : List (List Int)} (hl : L.length ≤ 1000) (hz : ∀ z ∈ L, z.length ≤ 1000) (hr : ∀ z ∈ L, InV V z) {xs : List Int} (hxl : xs.length ≤ 1000) (hx : InV V xs) {a : Option Addr} {c : Nat} {xa : Option Addr} {xc : Nat} {w : World} {l k : Nat} (hll : L.length = l) (hk : xs.length = k) (hR : RowsR .i64 w a L) (hX : IntsR w xa xs) :
    Calls Try.prog 28 #[.agg #[.int .i64 V, .slice a l c], .slice xa k xc] w fun e w' => ∃ v b, e = .returned (.tuple #[v, .bool b, .int .i64 0]) ∧ Hid (b = true ↔ Fails L xs) ∧ Hid (Below w.heap.size w w') :=
  have hmx : maxLen = 9223372036854775807 := rfl
  unitsOk a c xa xc w hll hk (by omega) (by omega) (fun z h => by have := hz z h; omega) hR hX (by omega) (fun z h => (hr z h).rng hV) (checkF_good hV (by omega) (fun z h => by have := hz z h; omega) hr) (fun x h => by have := hx x h; omega)

set_option maxRecDepth 100000 in
set_option maxHeartbeats 8000000 in
theorem rupEmpty_walk (w : World) (n : Int) (hn : (Lit.int .u8 n).wf = true) (a : Option Addr) (c : Nat) (zss : List (List Int)) (hR : RowsR .i8 w a zss) (hA : AllLen zss) (hm : zss.length ≤ maxLen) (hwf : ∀ z ∈ zss, ∀ x ∈ z, (Lit.int .i8 x).wf = true)
    (cut : Int) (hcut : (Lit.int .u8 cut).wf = true) :
    Calls Try.prog 11 #[.int .u8 n, .slice a zss.length c, .int .u8 cut] w fun e w' => e = .returned (.bool true) ∧ Below w.heap.size w w' := by
  obtain ⟨hn0, hn1⟩ := u8_range hn
  obtain ⟨hd0, hd1⟩ := u8_range hcut
  obtain ⟨i0, hi, hz0, hz1, hz2⟩ := info_parts Try.info3
  obtain ⟨V, hV⟩ : ∃ V : Nat, 1 + n % 12 = (V : Int) := ⟨(1 + n % 12).toNat, by omega⟩
  have hV1 : 1 ≤ V := by omega
  have hV2 : V ≤ 12 := by omega
  have HF := Lib.hid (fit_any n V hn0 hn1 hV a c zss w hR hA hm hwf)
  have hmx : maxLen = 9223372036854775807 := rfl
  clear hV hR hA hm hwf hn hn0 hn1 hcut
  go_enter Try.func11, Try.ntmps11
  go_wp2_with fail
  refine HF.out.mono ?_
  rintro e w1 (⟨hf, rfl, hB1⟩ | ⟨hf, a1, c1, rfl, hcap1, _, hR1, hB1⟩)
  · have HB1 := Lib.hid (hB1.alloc hB1.size (.cells #[.int .i64 0, .slice none 0 0] 26))
    clear hB1 hf
    go_wp2_with fail
    refine (knownR_any _).mono ?_
    rintro e w2 ⟨rfl, hB2⟩
    have HB2 := Lib.hid (HB1.out.trans (hB2.mono HB1.out.size))
    clear hB2
    go_wp2
    go_ret
    exact ⟨rfl, HB2.out⟩
  · have HL := Lib.hid (fit_ok hV1 hV2 hf)
    have HLl := Lib.hid (fitL_len (V : Int) zss)
    have hzl : zss.length ≤ 30 := (fitB_parts hf).1
    have HR1 := Lib.hid (hR1.alloc (.cells #[.int .i64 V, .slice a1 zss.length c1] 26))
    have HB1 := Lib.hid (hB1.alloc hB1.size (.cells #[.int .i64 V, .slice a1 zss.length c1] 26))
    have HT := Lib.hid (Two.new w1 (.int .i64 V) (.slice a1 zss.length c1))
    generalize fitL (V : Int) zss = L at HL HLl HR1
    have HLz : Hid (∀ z ∈ L, z.length ≤ 1000) := fun z hz => by have := HL.out.2.1 z hz; omega
    clear hB1 hR1 hf HF
    go_wp2_with fail
    refine (unitsOf hV2 (by rw [HLl.out]; omega) HLz.out HL.out.2.2 (xs := []) (by simp) (fun x hx => by simp at hx) HLl.out rfl HR1.out (.inl rfl)).mono ?_
    rintro e w2 ⟨uv, b1, rfl, hb1, hB2⟩
    have HT2 := Lib.hid (HT.out.below hB2.out (by simp))
    have HR2 := Lib.hid (HR1.out.below hB2.out)
    have HB2 := Lib.hid (HB1.out.trans (hB2.out.mono HB1.out.size))
    have hg2 : w1.heap.size < w2.heap.size := HT2.out.lt
    have c0 := HT2.out.c0
    have c1' := HT2.out.c1
    clear hB2 HT HR1 HB1
    go_wp2_with fail
    refine (impliedOf hV2 HL.out (z := []) (by simp) (fun x hx => by simp at hx) HR2.out (.inl rfl) (by simp) (by omega) HLl.out rfl).mono ?_
    rintro e w3 ⟨hB3, b2, rfl, hb2⟩
    obtain rfl : b2 = b1 := bool_same hb2 hb1.out
    have HT3 := Lib.hid (HT2.out.below hB3 hg2)
    have HR3 := Lib.hid ((HR2.out.below hB3).alloc (.cells #[.slice none 0 0] 23))
    have HB3 := Lib.hid ((HB2.out.trans (hB3.mono HB2.out.size)).alloc (Nat.le_trans HB2.out.size hB3.size) (.cells #[.slice none 0 0] 23))
    have HT3' := Lib.hid (HT3.out.alloc (.cells #[.slice none 0 0] 23))
    have HPO : Hid (RowsR .i64 (w3.alloc (.cells #[.slice none 0 0] 23)) (some ⟨w3.heap.size, 0, none⟩) [[]]) := rowsOne (w := w3) (a := none) (c := 0) (z := []) (.inl rfl) (by simp) (by omega) _
    have hg3 : w1.heap.size < (w3.alloc (.cells #[.slice none 0 0] 23)).heap.size := HT3'.out.lt
    clear hB3 hb2 HT2 HR2 HB2 hg2 c0 c1'
    have c0 := HT3.out.c0
    have c1' := HT3.out.c1
    go_wp2_with fail
    refine (checkOf (P := [[]]) hV2 HL.out (by simp) (fun z hz => by rw [List.mem_singleton] at hz; subst hz; simp) (fun z hz => by rw [List.mem_singleton] at hz; subst hz; exact fun x hx => by simp at hx) HR3.out HPO.out (zc := 1) (by simp) HLl.out rfl).mono ?_
    rintro e w4 ⟨hB4, v, rfl, hv⟩
    have hvb : (v == -1) = b2 := bool_same (p := Fails L []) (by rw [beq_iff_eq]; exact chk_one hv) hb1.out
    have HT4 := Lib.hid (HT3'.out.below hB4 hg3)
    have HR4 := Lib.hid (HR3.out.below hB4)
    have HB4 := Lib.hid (HB3.out.trans (hB4.mono HB3.out.size))
    have hg4 : w1.heap.size < w4.heap.size := HT4.out.lt
    clear hB4 hv hb1 HT3 HT3' HR3 HB3 HPO hg3 c0 c1'
    have c0 := HT4.out.c0
    have c1' := HT4.out.c1
    by_cases hz00 : zss.length = 0
    · have e0 : ((zss.length : Int) == 0) = true := by rw [beq_iff_eq]; omega
      clear hz00
      cases b2
      · go_wp2_with fail
        refine (knownR_any _).mono ?_
        rintro e w5 ⟨rfl, hB5⟩
        have HB5 := Lib.hid (HB4.out.trans (hB5.mono HB4.out.size))
        clear hB5
        go_wp2
        go_ret
        exact ⟨rfl, HB5.out⟩
      · go_wp2_with fail
        refine (knownR_any _).mono ?_
        rintro e w5 ⟨rfl, hB5⟩
        have HB5 := Lib.hid (HB4.out.trans (hB5.mono HB4.out.size))
        clear hB5
        go_wp2
        go_ret
        exact ⟨rfl, HB5.out⟩
    have e0 : ((zss.length : Int) == 0) = false := by rw [beq_eq_false_iff_ne]; omega
    obtain ⟨m, hm, hml⟩ : ∃ m : Nat, cut % (zss.length : Int) = (m : Int) ∧ m < zss.length := by
      have h1 := Int.emod_nonneg cut (show (zss.length : Int) ≠ 0 by omega)
      have h2 := Int.emod_lt_of_pos cut (show (0 : Int) < (zss.length : Int) by omega)
      exact ⟨(cut % (zss.length : Int)).toNat, by omega, by omega⟩
    have hjt : cut.tmod (zss.length : Int) = (m : Int) := by rw [Int.tmod_eq_emod_of_nonneg hd0]; exact hm
    have hwd : IntKind.i64.wrap cut = cut := IntWalk.i64_in _ (by omega)
    have hk0 : (0 : Int) ≤ (m : Int) := by omega
    have hkc : (m : Int) ≤ (c1 : Int) := by omega
    have hkcn : m ≤ c1 := by omega
    have hkl : (m : Int) < (zss.length : Int) := by omega
    have HMT : Hid (MixT w4 (w4.alloc (.cells #[.int .i64 V, .slice none 0 0] 26)) w4.heap.size V (.slice none 0 0) []) := ⟨Two.new _ _ _, MixL.nil (boxed w4 _), (fun e => by cases e), Nat.le_refl _⟩
    have HT5 := Lib.hid (HT4.out.alloc (.cells #[.int .i64 V, .slice none 0 0] 26))
    have HC1 := Lib.hid hcap1
    clear hz00 hcap1
    go_wp2
    obtain ⟨w5, hw5⟩ : ∃ w5, w4.alloc (.cells #[.int .i64 V, .slice none 0 0] 26) = w5 := ⟨_, rfl⟩
    have hs5 : w4.heap.size + 1 = w5.heap.size := by rw [← hw5]; simp
    rw [hw5] at HMT HT5
    rw [hw5]
    obtain ⟨F, hF⟩ : ∃ F, w4.heap.size = F := ⟨_, rfl⟩
    rw [hF] at HMT
    rw [hF]
    rw [hF] at hs5
    have hgF : w1.heap.size < w5.heap.size := HT5.out.lt
    have HS5 : Hid (w4.heap.size ≤ w5.heap.size ∧ w4.heap.size ≤ F) := ⟨by omega, by omega⟩
    obtain ⟨b, off, rfl⟩ : ∃ b off, a1 = some ⟨b, off, none⟩ := by
      rcases HR4.out with h | ⟨b, off, h, _⟩
      · rw [HLl.out] at h; omega
      · exact ⟨b, off, h⟩
    have HNX1 : Hid (∀ v' w7, MixL w4 w7 v' ([] ++ L.take m) → w5.drew.grownBy w7 (Value.slice none 0 0).ownBlock → (v'.ownBlock = (Value.slice none 0 0).ownBlock ∨ v'.ownBlock = some w5.drew.heap.size) → Two w7 F (.int .i64 V) (.slice none 0 0) ∧ MixT w4 (w7.setCell ⟨F, 1, none⟩ v') F V v' ([] ++ L.take m)) := fun v' w7 h1 h2 h3 => (HMT.out.on ((Below.refl _ _).drew)).next h1 h2 h3
    have HM5 : Hid (MixL w4 w5.drew (.slice none 0 0) []) := (HMT.out.on ((Below.refl _ _).drew)).l
    have hlt : (L.take m).length = m := by rw [List.length_take, HLl.out]; omega
    have HRT := Lib.hid (HR4.out.take m)
    have HSL : Hid (∀ v' w7, MixL w4 w7 v' ([] ++ L.take m) → ∃ ga gc, v' = .slice ga m gc) := fun v' w7 h => by
      obtain ⟨ga, gc, rfl, _⟩ := h.rows
      rw [List.nil_append, hlt]
      exact ⟨ga, gc, rfl⟩
    have HLT := Lib.hid hlt
    have c1' := HT5.out.c1
    have e1 := HMT.out.f.c1
    have e2 := HMT.out.f.free 1
    clear hw5 hF hlt c0 hm hjt hwd hs5
    go_cut [17] from 81 to 88 (fun s17 wc => s17 = .pointer (some ⟨F, 0, none⟩) ∧ ∃ ga gc, Hid (MixT w4 wc F V (.slice ga m gc) ([] ++ L.take m)))
    case first =>
      go_region_law (refine step_append_low rfl _ _ rfl (.slice none 0 0) (by rfl) (some ⟨b, off, none⟩) m c1 (by rfl) HM5.out HLT.out HRT.out (by simp; omega) (fun h => by cases h) ?_; intro v7 w7 hM7 hg7 hat7; obtain ⟨ga, gc, rfl⟩ := HSL.out _ _ hM7; have HX := Lib.hid (HNX1.out _ _ hM7 hg7 hat7); have l1 := HX.out.1.c1; have z1 := HX.out.1.free 1; clear hM7 hg7 hat7)
      all_goals (go_wp2_with fail; go_meet; exact ⟨rfl, _, _, HX.out.2⟩)
    case rest =>
      obtain ⟨w8, rfl⟩ : ∃ w8 : World, w8 = wc := ⟨_, rfl⟩
      obtain ⟨rfl, ga, gc, HM8⟩ := hcut
      clear e1 e2 c1' HNX1 HM5 HMT HT5 hgF
      obtain ⟨K, hK⟩ : ∃ K : Nat, m + 1 = K := ⟨_, rfl⟩
      have hwK : IntKind.i64.wrap ((m : Int) + 1) = (K : Int) := by rw [IntWalk.i64_in _ (by omega)]; omega
      have hK0 : (0 : Int) ≤ (K : Int) := by omega
      have hKl : (K : Int) ≤ (zss.length : Int) := by omega
      have hKn : K ≤ zss.length := by omega
      have hlc : (zss.length : Int) ≤ (c1 : Int) := by have := HC1.out; omega
      have hlcn : zss.length ≤ c1 := by omega
      have HNX2 : Hid (∀ v' w9, MixL w4 w9 v' ([] ++ L.take m ++ L.drop K) → w8.drew.grownBy w9 (Value.slice ga m gc).ownBlock → (v'.ownBlock = (Value.slice ga m gc).ownBlock ∨ v'.ownBlock = some w8.drew.heap.size) → Two w9 F (.int .i64 V) (.slice ga m gc) ∧ MixT w4 (w9.setCell ⟨F, 1, none⟩ v') F V v' ([] ++ L.take m ++ L.drop K)) := fun v' w9 h1 h2 h3 => (HM8.out.on ((Below.refl _ _).drew)).next h1 h2 h3
      have HM9 : Hid (MixL w4 w8.drew (.slice ga m gc) ([] ++ L.take m)) := (HM8.out.on ((Below.refl _ _).drew)).l
      have hld : (L.drop K).length = zss.length - K := by rw [List.length_drop, HLl.out]
      have HRD : Hid (RowsR .i64 w4 (if c1 = K then some ⟨b, off, none⟩ else some ⟨b, off + K, none⟩) (L.drop K)) := by
        unfold Hid
        split
        · left; rw [hld]; omega
        · exact HR4.out.drop K
      have HLD := Lib.hid hld
      obtain ⟨N, hN⟩ : ∃ N, ([] ++ L.take m ++ L.drop K).length = N := ⟨_, rfl⟩
      have hN30 : N ≤ 30 := by rw [List.nil_append, List.length_append, HLT.out, hld] at hN; omega
      have HNN := Lib.hid hN
      have HSL2 : Hid (∀ v' w9, MixL w4 w9 v' ([] ++ L.take m ++ L.drop K) → ∃ ha hc, v' = .slice ha N hc) := fun v' w9 h => by
        obtain ⟨ha, hc, rfl, _⟩ := h.rows
        rw [HNN.out]
        exact ⟨ha, hc, rfl⟩
      have HTf := Lib.hid (HT4.out.below HM8.out.l.below hg4)
      have c1' := HTf.out.c1
      have e1 := HM8.out.f.c1
      have e2 := HM8.out.f.free 1
      have hml60 : ([] ++ L.take m).length + (zss.length - K) ≤ 1000000 := by rw [List.nil_append, HLT.out]; omega
      clear hld hN HSL
      go_wp2
      go_cut [17] from 89 to 97 (fun s17 wc => s17 = .pointer (some ⟨F, 0, none⟩) ∧ ∃ ha hc, Hid (MixT w4 wc F V (.slice ha N hc) ([] ++ L.take m ++ L.drop K)))
      case first =>
        by_cases hcK : c1 = K
        · have HRD1 : Hid (RowsR .i64 w4 (some ⟨b, off, none⟩) (L.drop K)) := by have := HRD.out; rw [if_pos hcK] at this; exact this
          have HLD0 : Hid ((L.drop K).length = 0) := by have := HLD.out; unfold Hid; rw [this]; omega
          have hml61 : ([] ++ L.take m).length + 0 ≤ 1000000 := by omega
          clear HRD
          subst hcK
          go_region_law ((first | refine step_append_low rfl _ _ rfl (.slice ga m gc) (by rfl) (some ⟨b, off, none⟩) (zss.length - c1) _ (by rfl) HM9.out HLD.out HRD1.out hml60 (fun h => by cases h) ?_ | refine step_append_low rfl _ _ rfl (.slice ga m gc) (by rfl) (some ⟨b, off, none⟩) 0 _ (by rfl) HM9.out HLD0.out HRD1.out hml61 (fun h => by cases h) ?_); intro v9 w9 hM9 hg9 hat9; obtain ⟨ha, hc, rfl⟩ := HSL2.out _ _ hM9; have HX := Lib.hid (HNX2.out _ _ hM9 hg9 hat9); have l1 := HX.out.1.c1; have z1 := HX.out.1.free 1; clear hM9 hg9 hat9)
          all_goals (go_wp2_with fail; go_meet; exact ⟨rfl, _, _, HX.out.2⟩)
        · have HRD1 : Hid (RowsR .i64 w4 (some ⟨b, off + K, none⟩) (L.drop K)) := by have := HRD.out; rw [if_neg hcK] at this; exact this
          clear HRD
          go_region_law (refine step_append_low rfl _ _ rfl (.slice ga m gc) (by rfl) (some ⟨b, off + K, none⟩) (zss.length - K) (c1 - K) (by rfl) HM9.out HLD.out HRD1.out hml60 (fun h => by cases h) ?_; intro v9 w9 hM9 hg9 hat9; obtain ⟨ha, hc, rfl⟩ := HSL2.out _ _ hM9; have HX := Lib.hid (HNX2.out _ _ hM9 hg9 hat9); have l1 := HX.out.1.c1; have z1 := HX.out.1.free 1; clear hM9 hg9 hat9)
          all_goals (go_wp2_with fail; go_meet; exact ⟨rfl, _, _, HX.out.2⟩)
      case rest =>
        obtain ⟨w9, rfl⟩ : ∃ w9 : World, w9 = wc := ⟨_, rfl⟩
        obtain ⟨rfl, ha, hc, HM9'⟩ := hcut
        obtain ⟨G, hG⟩ : ∃ G, [] ++ L.take m ++ L.drop K = G := ⟨_, rfl⟩
        rw [hG] at HM9' HNN
        have HGL : Hid (∀ z ∈ G, z ∈ L) := fun z hz => by
          rw [← hG, List.nil_append] at hz
          rcases List.mem_append.1 hz with hz | hz
          · exact List.mem_of_mem_take hz
          · exact List.mem_of_mem_drop hz
        obtain ⟨bb, o2, aj, cj, z, he, hbs, HZ, hcz, HK, hz1', hz2'⟩ := HR4.out.atC (j := m) (by rw [HLl.out]; omega)
        cases he
        have hzm : z ∈ L := List.mem_of_getElem? HZ.out
        have hzl' : z.length ≤ 20 := HL.out.2.1 z hzm
        have HZV : Hid (InV V z) := HL.out.2.2 z hzm
        have HZ12 := Lib.hid (And.intro hz1' hz2')
        have HCZ := Lib.hid hcz
        have HBS := Lib.hid hbs
        have HCC : Hid (∀ W, Below w9.heap.size w9 W → W.cell? ⟨F, 0, none⟩ = some (.int .i64 V) ∧ W.cell? ⟨F, 1, none⟩ = some (.slice ha N hc) ∧ W.cell? ⟨w1.heap.size, 1, none⟩ = some (.slice (some ⟨b, off, none⟩) zss.length c1) ∧ W.cell? ⟨b, off + m, none⟩ = some (.slice aj z.length cj) ∧ IntsR W aj z ∧ RowsR .i64 W ha G ∧ N ≤ hc ∧ Below w.heap.size w W) := fun W hW => by
          have hm := HM9'.out.on hW
          obtain ⟨ga', gc', e, h1, h2⟩ := hm.l.rows
          rw [HNN.out] at e h1
          injection e with e1 _ e3
          subst e1 e3
          exact ⟨hm.f.c0, hm.f.c1, (HT4.out.below hm.l.below hg4).c1, (hm.l.below.cell (p := ⟨b, off + m, none⟩) HBS.out).trans HCZ.out, (KI.below HK.out (by exact hm.l.below)).ints, h2, h1, HB4.out.trans (hm.l.below.mono HB4.out.size)⟩
        clear HNX2 HM9 HSL2 HRD HLD HM8 HTf c1' e1 e2 hG hzm hz1' hz2' hcz hbs hml60
        go_wp2
        go_loopw [18, 19] (fun cv i wr => ∃ q : Nat, i = .int .i64 q ∧ q ≤ z.length ∧ Hid (Own wr w9.heap.size cv (negs (z.take q))) ∧ Hid (Below w9.heap.size w9 wr)) (fun _ i _ => z.length - (intOf i).toNat)
        case atStart => exact ⟨0, rfl, Nat.zero_le _, Own.nil _ _, Below.refl _ _⟩
        case round =>
          obtain ⟨q, rfl, hq, HO, HB⟩ := hrel
          obtain ⟨d0, d1, d2, d3, hZI, hGR, hNc, hBw⟩ := HCC.out _ HB.out
          have hsz : w9.heap.size ≤ wr.heap.size := HB.out.size
          by_cases hlq : q < z.length
          · obtain ⟨b2', off2, x, rfl, HX, hcx⟩ := hZI.at hlq
            have hxv := HZV.out x (List.mem_of_getElem? HX.out)
            have hwx : IntKind.i64.wrap (-x) = -x := IntWalk.i64_in _ (by omega)
            have htk : negs (z.take (q + 1)) = negs (z.take q) ++ [-x] := by unfold negs; rw [take_snoc _ _ _ HX.out]; simp
            have HTK := Lib.hid htk
            have hlen : (negs (z.take q)).length = q := by rw [negs_len, List.length_take]; omega
            have HLEN := Lib.hid hlen
            clear hxv htk hZI hGR hBw hlen
            go_wp2_with (at_builtin; refine wpList_append_own _ rfl _ _ 23 rfl w9.heap.size 3 i0 (.int .i64 0) 1 8 Try.underlying23 hi hz0 hz1 hz2 rfl (by decide) _ _ _ rfl (World.ownsRow.alloc HO.out _) ⟨wr.heap.size, 0, none⟩ 1 1 [.int .i64 (-x)] rfl rfl (one_new (by simp)) one_int ?c3 ?c4 ?c5 ?_)
            case c3 => rw [HLEN.out]; omega
            case c4 => rw [HLEN.out]; omega
            case c5 => simp; omega
            intro v' w10 hown' hgrow _
            have R1 := Lib.hid (Own.of (zs := negs (z.take (q + 1))) hown' (by rw [HTK.out]; simp) (by rw [HTK.out]; simp))
            have R2 := Lib.hid (Own.below HO.out HB.out hsz hgrow)
            clear hown' hgrow HO HB d0 d1 d2 d3
            go_wp2
            go_roundw
            case rel => exact ⟨q + 1, by go_num, by omega, R1, R2⟩
            case measure => simp [intOf]; omega
          · have htk : z.take q = z := List.take_of_length_le (by omega)
            rw [htk] at HO
            obtain ⟨na, nc, rfl, hNI, _⟩ := HO.out.parts
            obtain ⟨w10, rfl⟩ : ∃ w10 : World, w10 = wr := ⟨_, rfl⟩
            have HGI : Hid (∀ z ∈ G, InV V z) := fun y hy => HL.out.2.2 y (HGL.out y hy)
            have HGz : Hid (∀ z ∈ G, z.length ≤ 20) := fun y hy => HL.out.2.1 y (HGL.out y hy)
            have hU := unitsOf hV2 (by rw [HNN.out]; omega) (fun y hy => by have := HGz.out y hy; omega) HGI.out (xs := negs z) (by rw [negs_len]; omega) (negs_in HZV.out) (xc := nc) (c := hc) HNN.out rfl hGR hNI
            have HU := Lib.hid hU
            have HB10 := HB
            clear hU htk hZI hGR hBw hNI HO HB
            go_wp2_with fail
            refine HU.out.mono ?_
            rintro e w11 ⟨uv2, f2, rfl, hf2, hB11⟩
            have HB11 : Hid (Below w9.heap.size w9 w11) := HB10.out.trans (hB11.out.mono HB10.out.size)
            obtain ⟨p0, p1, p2, p3, _, _, _, _⟩ := HCC.out _ HB11.out
            have HSS : Hid (∀ W, Hid (Below w11.heap.size w11 W) → W.cell? ⟨F, 0, none⟩ = some (.int .i64 V) ∧ W.cell? ⟨F, 1, none⟩ = some (.slice ha N hc) ∧ W.cell? ⟨w1.heap.size, 1, none⟩ = some (.slice (some ⟨b, off, none⟩) zss.length c1) ∧ W.cell? ⟨b, off + m, none⟩ = some (.slice aj z.length cj) ∧ Hid (Below w11.heap.size w11 W)) := fun W hW => by
              obtain ⟨h0, h1, h2, h3, _⟩ := HCC.out W (HB11.out.trans (hW.out.mono HB11.out.size))
              exact ⟨h0, h1, h2, h3, hW⟩
            have HD : Hid (Below w11.heap.size w11 w11.drew) := (Below.refl _ _).drew
            have HKI : Hid (∀ W, Hid (Below w11.heap.size w11 W) → Calls Try.prog 14 #[.agg #[.int .i64 V, .slice ha N hc], .slice aj z.length cj] W fun e w' => e = .returned (.tuple #[.bool f2, .int .i64 0]) ∧ Hid (Below w11.heap.size w11 w')) := fun W hW => by
              obtain ⟨_, _, _, _, h4, h5, _⟩ := HCC.out W (HB11.out.trans (hW.out.mono HB11.out.size))
              refine (impliedOk hV2 (by rw [HNN.out]; omega) (fun y hy => by have := HGz.out y hy; omega) HGI.out (by omega) HZV.out h5 h4 HZ12.out.1 HZ12.out.2 HNN.out rfl).mono ?_
              rintro e w' ⟨hb, v2, rfl, hv⟩
              rw [bool_same hv hf2.out]
              exact ⟨rfl, hW.out.trans (hb.mono hW.out.size)⟩
            have ef : (f2 == f2) = true := by simp
            clear d0 d1 d2 d3 hB11 hf2
            go_wp2
            go_cut [12, 13] from 128 to 136 (fun s12 s13 wc => s12 = .bool f2 ∧ s13 = .int .i64 0 ∧ Hid (Below w11.heap.size w11 wc))
            case first =>
              go_region_held3 (fun W => W.cell? ⟨F, 0, none⟩ = some (.int .i64 V) ∧ W.cell? ⟨F, 1, none⟩ = some (.slice ha N hc) ∧ W.cell? ⟨w1.heap.size, 1, none⟩ = some (.slice (some ⟨b, off, none⟩) zss.length c1) ∧ W.cell? ⟨b, off + m, none⟩ = some (.slice aj z.length cj) ∧ Hid (Below w11.heap.size w11 W)) (first | exact HSS.out _ HD | exact HSS.out _ (by assumption))
                (((with_reducible refine (HKI.out _ ?_).mono ?_); (· assumption); rintro e w' ⟨rfl, hb⟩))
              all_goals (go_wp2_with fail; go_meet; exact ⟨rfl, rfl, hb⟩)
            case rest =>
              obtain ⟨w12, rfl⟩ : ∃ w12 : World, w12 = wc := ⟨_, rfl⟩
              obtain ⟨rfl, rfl, HB12⟩ := hcut
              obtain ⟨_, _, _, _, _, _, _, hBF⟩ := HCC.out _ (HB11.out.trans (HB12.out.mono HB11.out.size))
              have HBF := Lib.hid hBF
              clear hBF p0 p1 p2 p3
              go_wp2_with fail
              refine (knownR_any _).mono ?_
              rintro e w13 ⟨rfl, hB13⟩
              have HB13 := Lib.hid (HBF.out.trans (hB13.mono HBF.out.size))
              clear hB13
              go_wp2
              go_ret
              exact ⟨rfl, HB13.out⟩
end Go.Proofs.Ytbljkbdbiceokaa
