/-
  A long chain of clauses, plain.
-/
import Derived.Test.YtjpjhpokimdblaaPropS
namespace Go.Proofs.Ytjpjhpokimdblaa
open Go.RowKit Go.Lib
open Go.RowKit (Below)

def chainL (m : Nat) : List (List Int) := (List.range m).map fun (v : Nat) => [-((v : Int) + 1), (v : Int) + 1 + 1]
def upTo (k : Nat) : List Int := (List.range k).map fun (v : Nat) => (v : Int) + 1
def downTo (k : Nat) : List Int := (List.range k).map fun (v : Nat) => -((v : Int) + 1)
theorem chainL_snoc (m : Nat) : chainL (m + 1) = chainL m ++ [[-((m : Int) + 1), (m : Int) + 1 + 1]] := by unfold chainL; rw [List.range_succ, List.map_append]; rfl
theorem upTo_snoc (k : Nat) : upTo (k + 1) = upTo k ++ [(k : Int) + 1] := by unfold upTo; rw [List.range_succ, List.map_append]; rfl
theorem downTo_snoc (k : Nat) : downTo (k + 1) = downTo k ++ [-((k : Int) + 1)] := by unfold downTo; rw [List.range_succ, List.map_append]; rfl
theorem chainL_len (m : Nat) : (chainL m).length = m := by simp [chainL]
theorem upTo_len (m : Nat) : (upTo m).length = m := by simp [upTo]
theorem downTo_len (m : Nat) : (downTo m).length = m := by simp [downTo]
theorem mem_chainL {m : Nat} {c : List Int} : c ∈ chainL m ↔ ∃ v : Nat, v < m ∧ c = [-((v : Int) + 1), (v : Int) + 1 + 1] := by
  unfold chainL; rw [List.mem_map]; simp only [List.mem_range]
  exact ⟨fun ⟨v, h1, h2⟩ => ⟨v, h1, h2.symm⟩, fun ⟨v, h1, h2⟩ => ⟨v, h1, h2.symm⟩⟩
theorem mem_upTo {k : Nat} {x : Int} : x ∈ upTo k ↔ 1 ≤ x ∧ x ≤ k := by
  unfold upTo; rw [List.mem_map]; simp only [List.mem_range]
  constructor
  · rintro ⟨v, h1, rfl⟩; omega
  · rintro ⟨h1, h2⟩; exact ⟨(x - 1).toNat, by omega, by omega⟩
theorem mem_downTo {k : Nat} {x : Int} : x ∈ downTo k ↔ -(k : Int) ≤ x ∧ x ≤ -1 := by
  unfold downTo; rw [List.mem_map]; simp only [List.mem_range]
  constructor
  · rintro ⟨v, h1, rfl⟩; omega
  · rintro ⟨h1, h2⟩; exact ⟨(-x - 1).toNat, by omega, by omega⟩
theorem lits_of_cons {u : List Int} (h : ∀ x ∈ u, x ≠ 0) : litsOf (0 :: u) = u := by
  unfold litsOf
  rw [List.filter_cons_of_neg (by simp), List.filter_eq_self]
  intro x hx; simpa using h x hx
theorem chain_up_der {k m : Nat} (hm : m + 1 = k) : ∀ v : Nat, v < k → Der (chainL m) [1] ((v : Int) + 1)
  | 0, _ => .assume (by simp)
  | v + 1, h => by
    have ih := chain_up_der hm v (by omega)
    refine .unit (c := [-((v : Int) + 1), (v : Int) + 1 + 1]) (mem_chainL.2 ⟨v, by omega, rfl⟩) (by simp) fun y hy hne => ?_
    simp at hy
    rcases hy with rfl | rfl
    · rw [Int.neg_neg]; exact ih
    · exact absurd (by push_cast; omega) hne
theorem chain_down_der {k m : Nat} (hm : m + 1 = k) : ∀ j v : Nat, j + v + 1 = k → Der (chainL m) [-(k : Int)] (-((v : Int) + 1))
  | 0, v, h => .assume (by have : (v : Int) + 1 = k := by omega
                           rw [this]; simp)
  | j + 1, v, h => by
    have ih := chain_down_der hm j (v + 1) (by omega)
    refine .unit (c := [-((v : Int) + 1), (v : Int) + 1 + 1]) (mem_chainL.2 ⟨v, by omega, rfl⟩) (by simp) fun y hy hne => ?_
    simp at hy
    rcases hy with rfl | rfl
    · exact absurd rfl hne
    · have : -((v : Int) + 1 + 1) = -(((v + 1 : Nat) : Int) + 1) := by push_cast; omega
      rw [this]; exact ih
theorem nil_chain (m : Nat) : [] ∉ chainL m := fun h => by obtain ⟨v, _, h2⟩ := mem_chainL.1 h; simp at h2
theorem known_getD {u : List Int} {f : Nat → Int} {k : Nat} (hu : u = (List.range k).map f) (hf : ∀ v, (f v).natAbs = v + 1) : ∀ v, v < (0 :: u).length → (0 :: u).getD v 0 = 0 ∨ ((0 :: u).getD v 0).natAbs = v := by
  intro v hv
  cases v with
  | zero => left; rfl
  | succ v =>
    right
    subst hu
    have hv' : v < k := by simpa using hv
    simp [hv', hf]
theorem chain_up {k m : Nat} (hm : m + 1 = k) : Follows k (chainL m) [1] (upTo k) := by
  refine follows_dec (k := 0 :: upTo k) ?_ ?_ ?_ (nil_chain m) ?_ (by simp [upTo_len]) rfl (known_getD rfl fun v => by omega) (lits_of_cons fun x hx => by have := mem_upTo.1 hx; omega).symm
  · intro a ha; simp at ha; subst ha; exact mem_upTo.2 (by omega)
  · intro c hc x hx h
    obtain ⟨v, hv, rfl⟩ := mem_chainL.1 hc
    simp at hx
    rcases hx with rfl | rfl
    · have := mem_upTo.1 (h ((v : Int) + 1 + 1) (by simp) (by omega)); omega
    · exact mem_upTo.2 (by omega)
  · intro x hx hn
    have := mem_upTo.1 hx; have := mem_upTo.1 hn; omega
  · intro x hx
    have h := mem_upTo.1 hx
    have := chain_up_der hm (x - 1).toNat (by omega)
    rw [show (((x - 1).toNat : Nat) : Int) + 1 = x by omega] at this
    exact this
theorem chain_down {k m : Nat} (hm : m + 1 = k) : Follows k (chainL m) [-(k : Int)] (downTo k) := by
  refine follows_dec (k := 0 :: downTo k) ?_ ?_ ?_ (nil_chain m) ?_ (by simp [downTo_len]) rfl (known_getD rfl fun v => by omega) (lits_of_cons fun x hx => by have := mem_downTo.1 hx; omega).symm
  · intro a ha; simp at ha; subst ha; exact mem_downTo.2 (by omega)
  · intro c hc x hx h
    obtain ⟨v, hv, rfl⟩ := mem_chainL.1 hc
    simp at hx
    rcases hx with rfl | rfl
    · exact mem_downTo.2 (by omega)
    · have := mem_downTo.1 (h (-((v : Int) + 1)) (by simp) (by omega)); omega
  · intro x hx hn
    have := mem_downTo.1 hx; have := mem_downTo.1 hn; omega
  · intro x hx
    have h := mem_downTo.1 hx
    have := chain_down_der hm (k - (-x).toNat) ((-x).toNat - 1) (by omega)
    rw [show -((((-x).toNat - 1 : Nat) : Int) + 1) = x by omega] at this
    exact this
theorem chain_fails {k m : Nat} (hm : m + 1 = k) (_ : 2 ≤ k) : Fails (chainL m) [1, -(k : Int)] := by
  have h1 := (chain_up_der hm (k - 1) (by omega)).mono (F' := chainL m) (A' := [1, -(k : Int)]) (fun _ h => h) (by simp)
  rw [show ((k - 1 : Nat) : Int) + 1 = k by omega] at h1
  exact .inr ⟨k, h1, .assume (by simp)⟩
theorem chain_rng {m : Nat} (hm : m ≤ 2000) : ∀ z ∈ chainL m, ∀ x ∈ z, Rng x := by
  intro z hz x hx
  obtain ⟨v, hv, rfl⟩ := mem_chainL.1 hz
  simp at hx
  rcases hx with rfl | rfl <;> constructor <;> omega
theorem chain_all (m : Nat) : AllLen (chainL m) := fun z hz => by
  obtain ⟨v, hv, rfl⟩ := mem_chainL.1 hz
  have hmx : maxLen = 9223372036854775807 := rfl
  simp; omega
theorem chain_check {k m : Nat} (hm : m + 1 = k) (hk : k ≤ 2000) {xs : List Int} (hx : ∀ x ∈ xs, x ≠ 0 ∧ x.natAbs ≤ k) : checkP k (chainL m) xs = 0 := by
  have hone : ∀ x : Int, x ≠ 0 → x.natAbs ≤ k → badB (k : Int) x = false := fun x h0 hn => badB_of (by constructor <;> omega) h0 hn
  have hF : checkF (k : Int) (chainL m) = 0 := by
    rw [checkF_in (by omega) (by rw [chainL_len]; omega)]
    refine errs_zero fun z hz => ?_
    obtain ⟨v, hv, rfl⟩ := mem_chainL.1 hz
    unfold checkI
    rw [if_neg (by omega), if_neg (by simp)]
    have : ([-((v : Int) + 1), (v : Int) + 1 + 1] : List Int).any (badB (k : Int)) = false := by
      simp only [List.any_cons, List.any_nil, Bool.or_false]
      rw [hone _ (by omega) (by omega), hone _ (by omega) (by omega)]; rfl
    rw [this]; rfl
  unfold checkP
  rw [hF, if_neg (by simp)]
  have : xs.any (badB (k : Int)) = false := by
    rw [List.any_eq_false]
    intro x hxx
    rw [hone x (hx x hxx).1 (hx x hxx).2]; simp
  rw [this]; rfl
end Go.Proofs.Ytjpjhpokimdblaa
