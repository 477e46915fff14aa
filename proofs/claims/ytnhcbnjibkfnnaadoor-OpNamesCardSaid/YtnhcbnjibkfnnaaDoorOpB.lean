/-
  Layer op: contract of Of (a range over the string of all names), of the reference's names, Name and Of, and of what every law asks at its end.
-/
import Derived.Test.YtnhcbnjibkfnnaaDoorOpA
import Derived.Laws.RangeString
namespace Go.Proofs.YtnhcbnjibkfnnaaDoor.Ops
open Go.RowKit Go.Lib
open Go.RowKit (Below)

/-! The string of all names: after p bytes k names have ended, and the next one begins at s. -/
def allL : List UInt8 := opNames.flatMap fun n => n ++ [32]
def allB : ByteArray := ⟨allL.toArray⟩
def kAt (p : Nat) : Nat := ((allL.take p).filter (· == 32)).length
def sAt (p : Nat) : Nat := p - ((allL.take p).reverse.takeWhile (· != 32)).length
def stepOk (p : Nat) : Bool :=
  let c := allL.getD p 0
  decide (c < 128) && (if c == 32 then (allL.drop (sAt p)).take (p - sAt p) == nameL (kAt p + 2) && decide (kAt p < 20) && kAt (p + 1) == kAt p + 1 && sAt (p + 1) == p + 1 && decide (sAt p ≤ p) else kAt (p + 1) == kAt p && sAt (p + 1) == sAt p)
theorem steps_ok : ∀ p, p < 75 → stepOk p = true := by
  have : ((List.range 75).all stepOk) = true := by decide +kernel
  intro p hp
  exact List.all_eq_true.1 this p (List.mem_range.2 hp)
theorem allB_size : allB.size = 75 := by decide +kernel
theorem kAt_end : kAt 75 = 20 := by decide +kernel
theorem step_blank {p : Nat} (hp : p < 75) (h : allL.getD p 0 = 32) : allB.extract (sAt p) p = nameB (kAt p + 2) ∧ kAt p < 20 ∧ kAt (p + 1) = kAt p + 1 ∧ sAt (p + 1) = p + 1 ∧ sAt p ≤ p := by
  have := steps_ok p hp
  unfold stepOk at this
  simp only [h, beq_self_eq_true, if_true, Bool.and_eq_true, beq_iff_eq, decide_eq_true_eq] at this
  obtain ⟨_, ⟨⟨⟨h1, h2⟩, h3⟩, h4⟩, h5⟩ := this
  refine ⟨?_, h2, h3, h4, h5⟩
  apply ByteArray.ext
  apply Array.ext'
  simp only [ByteArray.data_extract, Array.toList_extract, nameB]
  rw [← h1]
  simp [allB, List.extract]
theorem step_other {p : Nat} (hp : p < 75) (h : allL.getD p 0 ≠ 32) : kAt (p + 1) = kAt p ∧ sAt (p + 1) = sAt p := by
  have := steps_ok p hp
  unfold stepOk at this
  have hb : (allL.getD p 0 == 32) = false := by simpa using h
  simp only [hb, Bool.and_eq_true, beq_iff_eq, Bool.false_eq_true, if_false] at this
  exact this.2
theorem step_ascii {p : Nat} (hp : p < 75) : (allL.getD p 0).toNat < 128 := by
  have := steps_ok p hp
  unfold stepOk at this
  simp only [Bool.and_eq_true, decide_eq_true_eq] at this
  exact this.1
theorem allB_at {p : Nat} (hp : p < allB.size) : allB[p] = allL.getD p 0 := by
  have h2 : p < allL.length := hp
  show allL.toArray[p] = _
  simp [List.getD, h2]

def iterPos (wr : World) (b : Nat) : Nat := match wr.heap[b]? with | some (.stringIter _ p) => p | _ => 0
theorem iterPos_iter (w : World) (Z : ByteArray) (p : Nat) : iterPos (w.iter Z p) w.heap.size = p := by unfold iterPos; rw [World.iter_heap]
theorem below_iter (w : World) (Z : ByteArray) (p : Nat) : Below w.heap.size w (w.iter Z p) := (Below.refl _ _).alloc (Nat.le_refl _) _

/-- Which operator has the name s. -/
def OfPost (s : ByteArray) (e : Ending) : Prop :=
  (∃ k, k < 20 ∧ nameB (k + 2) = s ∧ e = .returned (.tuple #[.int .u8 ((k : Int) + 2), .int .i64 0])) ∨ ((∀ k, k < 20 → nameB (k + 2) ≠ s) ∧ e = .returned (.tuple #[.int .u8 0, .int .i64 6]))

set_option maxRecDepth 20000 in
set_option maxHeartbeats 4000000 in
theorem of_is (s : ByteArray) (w : World) : Calls Tryd.prog 17 #[.string s] w fun e w' => OfPost s e ∧ Below w.heap.size w w' := by
  go_enter Tryd.func17, Tryd.ntmps17
  obtain ⟨Z, hZ⟩ : ∃ Z : ByteArray, allB = Z := ⟨_, rfl⟩
  have hZc : ({ data := ([110, 111, 116, 32, 110, 101, 103, 32, 97, 100, 100, 32, 115, 117, 98, 32, 109, 117, 108, 32, 100, 105, 118, 32, 114, 101, 109, 32, 97, 110, 100, 32, 111, 114, 32, 120, 111].append [114, 32, 115, 104, 108, 32, 115, 104, 114, 32, 115, 97, 114, 32, 101, 113, 32, 110, 101, 32, 108, 116, 32, 108, 101, 32, 115, 108, 116, 32, 115, 108, 101, 32, 105, 116, 101, 32]).toArray } : ByteArray) = Z := by rw [← hZ]; rfl
  simp only [hZc]
  have hsz : Z.size = 75 := by rw [← hZ]; exact allB_size
  have hat : ∀ p (hp : p < Z.size), Z[p] = allL.getD p 0 := by subst hZ; intro p hp; exact allB_at hp
  have hex : ∀ p, p < 75 → allL.getD p 0 = 32 → Z.extract (sAt p) p = nameB (kAt p + 2) := by subst hZ; intro p hp h; exact (step_blank hp h).1
  have HE := Lib.hid hex
  clear hZc hex hZ
  go_wp2
  go_loopw [4, 5] (fun o s0 wr => ∃ p : Nat, p ≤ 75 ∧ o = .int .u8 ((kAt p : Int) + 2) ∧ s0 = .int .i64 (sAt p : Int) ∧ wr = w.iter Z p ∧ Hid (∀ k, k < kAt p → nameB (k + 2) ≠ s)) (fun _ _ wr => 75 - iterPos wr w.heap.size)
  case atStart => exact ⟨0, by omega, rfl, rfl, rfl, fun k hk => absurd hk (Nat.not_lt_zero k)⟩
  case round =>
    obtain ⟨p, hp, rfl, rfl, rfl, HN⟩ := hrel
    by_cases hlt : p < 75
    · have hpz : p < Z.size := by omega
      obtain ⟨c, hc⟩ : ∃ c, Z[p] = c := ⟨_, rfl⟩
      have hca : allL.getD p 0 = c := by rw [← hat p hpz, hc]
      have ha := step_ascii hlt
      have hnx := fun ty => run_next_ascii (P := Tryd.prog) w Z p ty hpz (by rw [hat p hpz]; exact ha)
      rw [hc] at hnx
      clear hat hc ha
      by_cases h32 : c = 32
      · have h32' : (c.toNat : Int) = 32 := by rw [h32]; rfl
        obtain ⟨_, hk20, hk1, hs1, hs0⟩ := step_blank hlt (hca.trans h32)
        have hx := HE.out p hlt (hca.trans h32)
        obtain ⟨N, hN⟩ : ∃ N, nameB (kAt p + 2) = N := ⟨_, rfl⟩
        rw [hN] at hx
        obtain ⟨K, hK⟩ : ∃ K, kAt p = K := ⟨_, rfl⟩
        obtain ⟨A, hA⟩ : ∃ A, sAt p = A := ⟨_, rfl⟩
        rw [hK] at hN hk20 hk1 HN ⊢
        rw [hA] at hx hs0 ⊢
        have HK := Lib.hid hK
        have HA := Lib.hid hA
        have HK1 := Lib.hid hk1
        have HS1 := Lib.hid hs1
        have HNm := Lib.hid hN
        have hsl := run_slice_string (P := Tryd.prog) (w.iter Z (p + 1)) 9 Z .i64 .i64 (A : Int) (p : Int) Tryd.underlying9 (by omega) (by omega) (by omega)
        rw [Int.toNat_natCast, Int.toNat_natCast, hx] at hsl
        have hu : IntKind.u8.wrap ((K : Int) + 2 + 1) = (K : Int) + 2 + 1 := by simp [IntKind.wrap, IntKind.bits, IntKind.signed]; omega
        clear hK hA hk1 hs1 hN HE hca h32 hx
        by_cases hq : N = s
        · have hQ := Lib.hid hq
          have hq1 : (N.toList == s.toList) = true := by rw [hq]; simp
          clear hq
          go_wp2
          go_ret2
          exact ⟨.inl ⟨K, hk20, HNm.out.trans hQ.out, rfl⟩, below_iter _ _ _⟩
        · have hQ := Lib.hid hq
          have hq1 : (N.toList == s.toList) = false := by rw [Lib.toList_data, Lib.toList_data]; simp; exact fun h => hq (ByteArray.ext h)
          clear hq
          go_wp2
          go_roundw
          case rel => exact ⟨p + 1, by omega, by rw [HK1.out]; congr 1, by rw [HS1.out]; rfl, rfl, by
            rw [HK1.out]
            intro k hk
            by_cases e : k = K
            · subst e; exact fun h => hQ.out (HNm.out.symm.trans h)
            · exact HN.out k (by omega)⟩
          case measure => rw [iterPos_iter, iterPos_iter]; omega
      · have h32' : ¬ (c.toNat : Int) = 32 := fun h => h32 (by
          have : c.toNat = 32 := by omega
          exact UInt8.toNat_inj.1 this)
        obtain ⟨hk1, hs1⟩ := step_other hlt (by rw [hca]; exact h32)
        have HK1 := Lib.hid hk1
        have HS1 := Lib.hid hs1
        clear hk1 hs1 HE hca h32
        go_wp2
        go_roundw
        case rel => exact ⟨p + 1, by omega, by rw [HK1.out], by rw [HS1.out], rfl, by rw [HK1.out]; exact HN⟩
        case measure => rw [iterPos_iter, iterPos_iter]; omega
    · obtain rfl : p = 75 := by omega
      have hnx := fun ty => run_next_end (P := Tryd.prog) w Z 75 ty (by omega)
      clear hat
      go_wp2
      go_ret2
      exact ⟨.inr ⟨fun k hk => HN.out k (by rw [kAt_end]; exact hk), rfl⟩, below_iter _ _ _⟩

set_option maxHeartbeats 4000000 in
theorem names_is (w : World) : Calls Tryd.prog 20 #[] w fun e w' => e = .returned (.slice (some ⟨w.heap.size, 0, none⟩) 20 20) ∧ (∀ k, k < 20 → w'.cell? ⟨w.heap.size, k, none⟩ = some (.string (nameB (k + 2)))) ∧ Below w.heap.size w w' := by
  go_enter Tryd.func20, Tryd.ntmps20
  go_wp2
  go_ret
  refine ⟨rfl, fun k hk => ?_, (Below.refl _ _).alloc (Nat.le_refl _) _⟩
  rw [World.cell?_alloc_new]
  rcases k with _ | _ | _ | _ | _ | _ | _ | _ | _ | _ | _ | _ | _ | _ | _ | _ | _ | _ | _ | _ | k
  all_goals first | rfl | omega
set_option maxHeartbeats 4000000 in
theorem rname_is (o : Nat) (h1 : o ≤ 255) (w : World) : Calls Tryd.prog 13 #[.int .u8 o] w fun e w' => e = .returned (.tuple (if o < 22 then if o < 2 then #[.string ⟨#[]⟩, .int .i64 6] else #[.string (nameB o), .int .i64 0] else #[.string ⟨#[]⟩, .int .i64 3])) ∧ Below w.heap.size w w' := by
  by_cases ho : o < 22
  · by_cases h2 : o < 2
    · go_enter Tryd.func13, Tryd.ntmps13
      go_wp2
      go_ret2
      exact ⟨rfl, Below.refl _ _⟩
    · obtain ⟨k, rfl⟩ : ∃ k, o = k + 2 := ⟨o - 2, by omega⟩
      have hu : IntKind.u8.wrap (((k + 2 : Nat) : Int) - 2) = (k : Int) := by simp [IntKind.wrap, IntKind.bits, IntKind.signed]; omega
      have hk : k < 20 := by omega
      go_enter Tryd.func13, Tryd.ntmps13
      go_wp2_with (go_at_call 20; refine (names_is _).mono ?_; rintro e w' ⟨rfl, hc, hB⟩; have hck := hc k hk; have HB := Lib.hid hB; clear hc hB)
      go_ret2
      exact ⟨rfl, HB.out⟩
  · go_enter Tryd.func13, Tryd.ntmps13
    go_wp2
    go_ret2
    exact ⟨rfl, Below.refl _ _⟩
set_option maxHeartbeats 4000000 in
theorem rof_is (s : ByteArray) (w : World) : Calls Tryd.prog 18 #[.string s] w fun e w' => OfPost s e ∧ Below w.heap.size w w' := by
  go_enter Tryd.func18, Tryd.ntmps18
  go_wp2_with (go_at_call 20; refine (names_is _).mono ?_; rintro e w' ⟨rfl, hc, hB⟩; have HC := Lib.hid hc; have HB := Lib.hid hB; clear hc hB)
  go_loop [5] (fun i => ∃ k : Nat, k ≤ 20 ∧ i = .int .i64 k ∧ Hid (∀ j, j < k → nameB (j + 2) ≠ s)) (fun i => 20 - (intOf i).toNat)
  case atStart => exact ⟨0, by omega, rfl, fun k hk => absurd hk (Nat.not_lt_zero k)⟩
  case round =>
    obtain ⟨k, hk, rfl, HN⟩ := hrel
    by_cases hlt : k < 20
    · have hck := HC.out k hlt
      have hk1 : (k : Int) < 20 := by omega
      have hu : IntKind.u8.wrap (k : Int) = k := by simp [IntKind.wrap, IntKind.bits, IntKind.signed]; omega
      have hu2 : IntKind.u8.wrap (2 + (k : Int)) = 2 + k := by simp [IntKind.wrap, IntKind.bits, IntKind.signed]; omega
      obtain ⟨N, hN⟩ : ∃ N, nameB (k + 2) = N := ⟨_, rfl⟩
      rw [hN] at hck
      have HNm := Lib.hid hN
      clear hN HC
      by_cases hq : N = s
      · have hQ := Lib.hid hq
        have hq1 : (N.toList == s.toList) = true := by rw [hq]; simp
        clear hq
        go_wp2
        go_ret2
        exact ⟨.inl ⟨k, hlt, HNm.out.trans hQ.out, by
          show Ending.returned (.tuple #[.int .u8 (2 + (k : Int)), .int .i64 0]) = _
          rw [Int.add_comm]⟩, HB.out⟩
      · have hQ := Lib.hid hq
        have hq1 : (N.toList == s.toList) = false := by rw [Lib.toList_data, Lib.toList_data]; simp; exact fun h => hq (ByteArray.ext h)
        clear hq
        go_wp2
        go_round
        case rel => exact ⟨k + 1, by omega, by go_num, by
            intro j hj
            by_cases e : j = k
            · subst e; exact fun h => hQ.out (HNm.out.symm.trans h)
            · exact HN.out j (by omega)⟩
        case measure => simp [intOf]; omega
    · obtain rfl : k = 20 := by omega
      clear HC
      go_wp2
      go_ret2
      exact ⟨.inr ⟨fun k hk => HN.out k hk, rfl⟩, HB.out⟩
theorem xor_of {e : Ending} (h : OfPost ⟨#[120, 111, 114]⟩ e) : e = .returned (.tuple #[.int .u8 11, .int .i64 0]) := by
  rcases h with ⟨k, hk, hn, rfl⟩ | ⟨h, _⟩
  · have hd := congrArg (fun b => b.data.toList) hn
    rcases k with _ | _ | _ | _ | _ | _ | _ | _ | _ | _ | _ | _ | _ | _ | _ | _ | _ | _ | _ | _ | k
    all_goals first | rfl | (exfalso; revert hd; decide) | omega
  · exact absurd rfl (h 9 (by omega))
set_option maxHeartbeats 4000000 in
theorem lawKnown_is (w : World) (he : OpEnv w) : Calls Tryd.prog 16 #[] w fun e w' => e = .returned (.bool true) ∧ Below w.heap.size w w' := by
  have HE := Lib.hid he
  clear he
  go_enter Tryd.func16, Tryd.ntmps16
  go_wp2_with fail
  refine (name_is 20 (by omega) _ HE.out).mono ?_
  rintro e w1 ⟨rfl, rfl⟩
  obtain ⟨N, hN⟩ : ∃ N, nameB 20 = N := ⟨_, rfl⟩
  have hq1 : (N.toList == [115, 108, 101]) = true := by rw [← hN, Lib.toList_data]; rfl
  simp only [hN]
  clear hN
  go_wp2_with fail
  refine (of_is _ _).mono ?_
  rintro e w2 ⟨hP, hB⟩
  obtain rfl := xor_of hP
  have HB := Lib.hid hB
  clear hB hP HE
  go_wp2
  go_ret
  exact ⟨rfl, HB.out⟩
end Go.Proofs.YtnhcbnjibkfnnaaDoor.Ops
