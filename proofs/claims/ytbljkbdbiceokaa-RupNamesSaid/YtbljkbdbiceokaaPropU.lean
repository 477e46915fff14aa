/-
  What models say of what follows, plain; and of Units at small formulas.
-/
import Derived.Test.YtbljkbdbiceokaaPropS
namespace Go.Proofs.Ytbljkbdbiceokaa
open Go.RowKit Go.Lib
open Go.RowKit (Below)

theorem holds_small {m : List Bool} {x : Int} (h1 : -12 ≤ x) (h2 : x ≤ 12) (h0 : x ≠ 0) (hl : x.natAbs ≤ m.length) : holdsL m x = (m.getD (x.natAbs - 1) false == decide (0 < x)) := by
  have ha : au x = (x.natAbs : Int) := by rw [au_abs x (by omega) (by omega)]; split <;> omega
  unfold holdsL
  rw [ha, decide_eq_true (show (0 : Int) < (x.natAbs : Int) by omega), decide_eq_true (show (x.natAbs : Int) ≤ m.length by omega)]
  simp
theorem holds_not {m : List Bool} {x : Int} (h1 : -12 ≤ x) (h2 : x ≤ 12) (h0 : x ≠ 0) (h : holdsL m (-x) = true) : holdsL m x = false := by
  have ha : au x = (x.natAbs : Int) := by rw [au_abs x (by omega) (by omega)]; split <;> omega
  have hb : au (-x) = (x.natAbs : Int) := by rw [au_abs (-x) (by omega) (by omega)]; split <;> omega
  by_cases hl : x.natAbs ≤ m.length
  · rw [holds_small (x := -x) (by omega) (by omega) (by omega) (by omega)] at h
    rw [holds_small h1 h2 h0 hl]
    have e : (-x).natAbs = x.natAbs := by omega
    rw [e] at h
    by_cases hp : 0 < x
    · rw [decide_eq_false (show ¬ 0 < -x by omega)] at h
      rw [decide_eq_true hp]
      cases hm : m.getD (x.natAbs - 1) false <;> rw [hm] at h <;> simp_all
    · rw [decide_eq_true (show 0 < -x by omega)] at h
      rw [decide_eq_false hp]
      cases hm : m.getD (x.natAbs - 1) false <;> rw [hm] at h <;> simp_all
  · exact holdsL_far _ _ (by omega)
theorem der_model {F : List (List Int)} {A : List Int} {m : List Bool} (hr : ∀ z ∈ F, ∀ x ∈ z, -12 ≤ x ∧ x ≤ 12 ∧ x ≠ 0) (hF : ∀ z ∈ F, z.any (holdsL m) = true) (hA : ∀ x ∈ A, holdsL m x = true) {x : Int} (h : Der F A x) : holdsL m x = true := by
  induction h with
  | assume h => exact hA _ h
  | @unit c x hc hx _ ih =>
    obtain ⟨y, hy, hh⟩ := List.any_eq_true.1 (hF c hc)
    by_cases e : y = x
    · rw [← e]; exact hh
    · obtain ⟨h1, h2, h3⟩ := hr c hc y hy
      rw [holds_not h1 h2 h3 (ih y hy e)] at hh
      cases hh
theorem fails_model {F : List (List Int)} {A : List Int} {m : List Bool} (hr : ∀ z ∈ F, ∀ x ∈ z, -12 ≤ x ∧ x ≤ 12 ∧ x ≠ 0) (ha : ∀ x ∈ A, -12 ≤ x ∧ x ≤ 12 ∧ x ≠ 0) (hF : ∀ z ∈ F, z.any (holdsL m) = true) (hA : ∀ x ∈ A, holdsL m x = true) : ¬ Fails F A := by
  rintro (h | ⟨x, h1, h2⟩)
  · have := hF _ h
    simp at this
  · have g1 := der_model hr hF hA h1
    have g2 := der_model hr hF hA h2
    have hx : -12 ≤ x ∧ x ≤ 12 ∧ x ≠ 0 := by
      cases h1 with
      | assume h => exact ha _ h
      | unit hc hx _ => exact hr _ hc _ hx
    rw [holds_not hx.1 hx.2.1 hx.2.2 g2] at g1
    cases g1

/-- All variables in order: the literal at i is that of variable i + 1. -/
theorem order_low : ∀ {u : List Int} {s : Nat}, u.Pairwise (fun x y => x.natAbs < y.natAbs) → (∀ x ∈ u, s < x.natAbs) → ∀ {i : Nat} {x : Int}, u[i]? = some x → s + i < x.natAbs
  | [], _, _, _, _, _, h => by simp at h
  | z :: u, s, hp, hs, 0, x, h => by
    have e : z = x := by simpa using h
    rw [← e]; exact hs z (by simp)
  | z :: u, s, hp, hs, i + 1, x, h => by
    rw [List.pairwise_cons] at hp
    have h' : u[i]? = some x := by simpa using h
    have hz := hs z (by simp)
    have := order_low (s := s + 1) hp.2 (fun y hy => by have := hp.1 y hy; omega) h'
    omega
theorem order_high : ∀ {u : List Int} {n : Nat}, u.Pairwise (fun x y => x.natAbs < y.natAbs) → (∀ x ∈ u, x.natAbs ≤ n) → ∀ {i : Nat} {x : Int}, u[i]? = some x → x.natAbs + (u.length - 1 - i) ≤ n
  | [], _, _, _, _, _, h => by simp at h
  | [z], n, hp, hn, i, x, h => by
    have e : i = 0 := by have := (List.getElem?_eq_some_iff.1 h).1; simp at this; exact this
    subst e
    have e : z = x := by simpa using h
    have := hn z (by simp)
    rw [← e]; simp; exact this
  | z :: y :: u, n, hp, hn, 0, x, h => by
    have e : z = x := by simpa using h
    rw [List.pairwise_cons] at hp
    have h1 := order_high (u := y :: u) (n := n) hp.2 (fun v hv => hn v (List.mem_cons_of_mem _ hv)) (i := 0) (x := y) (by simp)
    have h2 := hp.1 y (by simp)
    rw [← e]
    simp at h1 ⊢; omega
  | z :: y :: u, n, hp, hn, i + 1, x, h => by
    rw [List.pairwise_cons] at hp
    have h' : (y :: u)[i]? = some x := by simpa using h
    have h1 := order_high (u := y :: u) (n := n) hp.2 (fun v hv => hn v (List.mem_cons_of_mem _ hv)) h'
    have : (z :: y :: u).length - 1 - (i + 1) = (y :: u).length - 1 - i := by simp
    rw [this]; exact h1
theorem order_at {u : List Int} {n : Nat} (hp : u.Pairwise (fun x y => x.natAbs < y.natAbs)) (hr : ∀ x ∈ u, 1 ≤ x.natAbs ∧ x.natAbs ≤ n ∧ x ≠ 0) (hl : u.length = n) {i : Nat} {x : Int} (h : u[i]? = some x) : x.natAbs = i + 1 := by
  have h1 := order_low (s := 0) hp (fun y hy => by have := hr y hy; omega) h
  have h2 := order_high hp (fun y hy => (hr y hy).2.1) h
  have h3 := (List.getElem?_eq_some_iff.1 h).1
  omega
theorem seenL_nil (u : List Int) : ∀ {c : List Int}, (∀ x ∈ c, -x ∈ u) → seenL u c = [] := by
  have : ∀ (c acc : List Int), (∀ x ∈ c, -x ∈ u) → c.foldl (seenF u) acc = acc := by
    intro c
    induction c with
    | nil => intro acc _; rfl
    | cons y c ih =>
      intro acc h
      have hy : decide (-y ∈ u) = true := decide_eq_true (h y (by simp))
      have e : seenF u acc y = acc := by unfold seenF; rw [hy]; simp
      rw [List.foldl_cons, e]
      exact ih acc fun x hx => h x (List.mem_cons_of_mem _ hx)
  intro c h
  exact this c [] h
/-- This model is what is said of all variables. -/
def Told (m : List Bool) (u : List Int) : Prop := ∀ (i : Nat) (x : Int), u[i]? = some x → m.getD i false = decide (0 < x)
theorem follows_all {n : Nat} {F : List (List Int)} {A u : List Int} (hn : n ≤ 12) (h : Follows n F A u) (hl : u.length = n) (hr : ∀ z ∈ F, ∀ x ∈ z, -(n : Int) ≤ x ∧ x ≤ n ∧ x ≠ 0) {m : List Bool} (hm : m.length = n) (ht : Told m u) : ∀ z ∈ F, z.any (holdsL m) = true := by
  obtain ⟨hp, hu, _⟩ := follows_order h
  intro z hz
  have key : ∀ x ∈ u, holdsL m x = true := fun x hx => by
    obtain ⟨i, hi⟩ := List.mem_iff_getElem?.1 hx
    have h1 := order_at hp hu hl hi
    obtain ⟨h2, h3, h4⟩ := hu x hx
    rw [holds_small (by omega) (by omega) h4 (by omega), show x.natAbs - 1 = i by omega, ht i x hi]
    simp
  have known : ∀ x ∈ z, x ∈ u ∨ -x ∈ u := fun x hx => by
    obtain ⟨h1, h2, h3⟩ := hr z hz x hx
    have hlt : x.natAbs - 1 < u.length := by omega
    have h4 := order_at hp hu hl (List.getElem?_eq_getElem hlt)
    have h5 : u[x.natAbs - 1] ∈ u := List.getElem_mem hlt
    by_cases e : u[x.natAbs - 1] = x
    · left; rw [e] at h5; exact h5
    · right
      have : u[x.natAbs - 1] = -x := by omega
      rw [this] at h5; exact h5
  cases hb : holdsL' u z with
  | true =>
    unfold holdsL' at hb
    obtain ⟨x, hx, h1⟩ := List.any_eq_true.1 hb
    exact List.any_eq_true.2 ⟨x, hx, key x (of_decide_eq_true h1)⟩
  | false =>
    have h2 := follows_done h hz hb
    have : seenL u z = [] := seenL_nil u fun x hx => by
      rcases known x hx with h | h
      · unfold holdsL' at hb
        rw [List.any_eq_false] at hb
        exact absurd (decide_eq_true h) (hb x hx)
      · exact h
    rw [this] at h2
    simp at h2

/-- What is returned is right in every model. -/
def SoundU (V : Nat) (L : List (List Int)) (xs u : List Int) (ff : Bool) : Prop := ∀ m : List Bool, m.length = V → firstI m L = -1 → (∀ x ∈ xs, holdsL m x = true) → ff = false ∧ ∀ x ∈ u, holdsL m x = true
def FullU (V : Nat) (L : List (List Int)) (u : List Int) (ff : Bool) : Prop := ff = false → u.length = V → ∀ m : List Bool, m.length = V → Told m u → firstI m L = -1
theorem first_all {m : List Bool} {L : List (List Int)} : firstI m L = -1 ↔ ∀ z ∈ L, z.any (holdsL m) = true := by
  rcases firstI_spec m L with ⟨h, h1⟩ | ⟨t, h, ht, _, h2⟩
  · rw [h]
    refine ⟨fun _ z hz => ?_, fun _ => rfl⟩
    obtain ⟨j, hj⟩ := List.mem_iff_getElem?.1 hz
    exact h1 j z hj
  · rw [h]
    refine ⟨fun e => by omega, fun e => ?_⟩
    have a1 := h2 _ (List.getElem?_eq_getElem ht)
    rw [e _ (List.getElem_mem ht)] at a1
    cases a1
theorem fit_range {V : Nat} (h2 : V ≤ 12) (h1 : 1 ≤ V) (zss : List (List Int)) : ∀ z ∈ fitL (V : Int) zss, ∀ x ∈ z, -(V : Int) ≤ x ∧ x ≤ V ∧ x ≠ 0 := by
  intro z hz x hx
  unfold fitL at hz
  obtain ⟨y, _, rfl⟩ := List.mem_map.1 hz
  exact fitZ_range V (by omega) y x hx
/-- What Units answers of a formula of at most 12 variables, in one form. -/
theorem unitsOne {V : Nat} (h1 : 1 ≤ V) (h2 : V ≤ 12) {zss : List (List Int)} (hb : fitB zss = true) {xs : List Int} (hx : ∀ x ∈ xs, -(V : Int) ≤ x ∧ x ≤ V ∧ x ≠ 0) (hl : xs.length ≤ maxLen) {a : Option Addr} {c : Nat} {xa : Option Addr} {xc : Nat} {w : World} (hR : RowsR .i64 w a (fitL V zss)) (hX : IntsR w xa xs) {l kx : Nat} (hll : (fitL V zss).length = l) (hk : xs.length = kx) :
    Calls Try.prog 28 #[.agg #[.int .i64 V, .slice a l c], .slice xa kx xc] w fun e w' => Below w.heap.size w w' ∧ ∃ ua uc u ff, e = .returned (.tuple #[.slice ua u.length uc, .bool ff, .int .i64 0]) ∧ IntsR w' ua u ∧ u.length ≤ V ∧ (∀ x ∈ u, -(V : Int) ≤ x ∧ x ≤ V ∧ x ≠ 0) ∧
      SoundU V (fitL V zss) xs u ff ∧ FullU V (fitL V zss) u ff := by
  have hr := fit_range h2 h1 zss
  have hr12 : ∀ z ∈ fitL (V : Int) zss, ∀ x ∈ z, -12 ≤ x ∧ x ≤ 12 ∧ x ≠ 0 := fun z hz x hx => by have := hr z hz x hx; omega
  refine (unitsFit h1 h2 hb hx hl hR hX hll hk).mono ?_
  rintro e w' ⟨hB, (⟨hF, rfl⟩ | ⟨v, u, hF, rfl, hO⟩)⟩
  · refine ⟨hB, none, 0, [], true, rfl, .inl rfl, Nat.zero_le _, by simp, fun m _ hf ha => ?_, fun h => by cases h⟩
    exact absurd hF (fails_model hr12 (fun x hxx => by have := hx x hxx; omega) (first_all.1 hf) ha)
  · obtain ⟨ua, uc, rfl, hU⟩ := hO.reads
    obtain ⟨_, hru, hul⟩ := follows_order hF
    refine ⟨hB, ua, uc, u, false, rfl, hU, hul, fun x hx => by have := hru x hx; omega, fun m _ hf ha => ⟨rfl, fun x hx => ?_⟩, fun _ hl m hm ht => first_all.2 (follows_all h2 hF hl hr hm ht)⟩
    obtain ⟨_, k, _, _, _, _, h4⟩ := hF
    exact der_model hr12 (first_all.1 hf) ha ((h4 x).1 hx)
theorem MRow.cell {w : World} {B g : Nat} {bs : List Bool} (h : MRow w B g bs) {j : Nat} (hj : j < bs.length) : w.cell? ⟨g, j, none⟩ = some (.bool (bs.getD j false)) := by
  rw [World.ownsRow.cellAt h j (by omega), List.getElem?_map, getD_some _ false j hj]; rfl
end Go.Proofs.Ytbljkbdbiceokaa
