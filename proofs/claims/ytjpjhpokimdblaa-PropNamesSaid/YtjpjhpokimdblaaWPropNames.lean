/-
  PropNames: the examples of the chapter.
-/
import Derived.Test.YtjpjhpokimdblaaPropO
namespace Go.Proofs.Ytjpjhpokimdblaa
open Go.RowKit Go.Lib
open Go.RowKit (Below)

/-! What follows from a formula that is written out. -/
def chkD (F : List (List Int)) (A : List Int) : List Int → List Int → Bool
  | _, [] => true
  | pre, x :: l => (decide (x ∈ A) || F.any fun c => decide (x ∈ c) && c.all fun y => y == x || decide (-y ∈ pre)) && chkD F A (x :: pre) l
theorem chkD_sound {F : List (List Int)} {A : List Int} : ∀ {l pre : List Int}, (∀ y ∈ pre, Der F A y) → chkD F A pre l = true → ∀ x ∈ l, Der F A x
  | [], _, _, _ => by simp
  | x :: l, pre, hp, h => by
    unfold chkD at h
    rw [Bool.and_eq_true, Bool.or_eq_true] at h
    have hx : Der F A x := by
      rcases h.1 with h1 | h1
      · exact .assume (of_decide_eq_true h1)
      · rw [List.any_eq_true] at h1
        obtain ⟨c, hc, h2⟩ := h1
        rw [Bool.and_eq_true, List.all_eq_true] at h2
        refine .unit hc (of_decide_eq_true h2.1) fun y hy hne => ?_
        have h3 := h2.2 y hy
        rw [Bool.or_eq_true, beq_iff_eq] at h3
        rcases h3 with h3 | h3
        · exact absurd h3 hne
        · exact hp _ (of_decide_eq_true h3)
    intro y hy
    rcases List.mem_cons.1 hy with rfl | hy
    · exact hx
    · exact chkD_sound (pre := x :: pre) (fun z hz => by
        rcases List.mem_cons.1 hz with rfl | hz
        · exact hx
        · exact hp z hz) h.2 y hy
theorem fails_chk {F : List (List Int)} {A l : List Int} (x : Int) (h : chkD F A [] l = true) (h1 : x ∈ l) (h2 : -x ∈ l) : Fails F A :=
  .inr ⟨x, chkD_sound (by simp) h _ h1, chkD_sound (by simp) h _ h2⟩

theorem n1 : Follows 3 threeL [] [] := follows_dec (k := [0, 0, 0, 0]) (by decide) (by decide) (by decide) (by decide) (by simp) rfl rfl (by decide) (by decide)
theorem n2 : Follows 3 threeL [-1] [-1, 2, -3] := follows_dec (k := [0, -1, 2, -3]) (by decide) (by decide) (by decide) (by decide) (chkD_sound (pre := []) (by simp) (by decide)) rfl rfl (by decide) (by decide)
theorem n3 : Follows 3 threeL [-2, 3] [1, -2, 3] := follows_dec (k := [0, 1, -2, 3]) (by decide) (by decide) (by decide) (by decide) (fun x hx => chkD_sound (pre := []) (l := [-2, 3, 1]) (by simp) (by decide) x (by simp at hx ⊢; omega)) rfl rfl (by decide) (by decide)
theorem n4 : Follows 3 threeL [1, 1] [1, -2, 3] := follows_dec (k := [0, 1, -2, 3]) (by decide) (by decide) (by decide) (by decide) (fun x hx => chkD_sound (pre := []) (l := [1, 3, -2]) (by simp) (by decide) x (by simp at hx ⊢; omega)) rfl rfl (by decide) (by decide)
theorem n5 : Fails threeL [1, 2] := fails_chk 2 (l := [1, 2, 3, -2]) (by decide) (by decide) (by decide)
theorem n6 : Fails threeL [1, -1] := fails_chk 1 (l := [1, -1]) (by decide) (by decide) (by decide)
theorem n7 : Fails [[1, 1], [-1, -1]] [] := fails_chk 1 (l := [1, -1]) (by decide) (by decide) (by decide)
theorem n8 : Fails [[]] [] := .inl (by simp)
theorem n9 : Follows 2 [[1, -1]] [-2] [-2] := follows_dec (k := [0, 0, -2]) (by decide) (by decide) (by decide) (by decide) (chkD_sound (pre := []) (by simp) (by decide)) rfl rfl (by decide) (by decide)
theorem rng_of {l : List Int} (h : l.all (fun x => decide (-9223372036854775808 ≤ x) && decide (x ≤ 9223372036854775807)) = true) : ∀ x ∈ l, Rng x := fun x hx => by
  rw [List.all_eq_true] at h
  have := h x hx
  rw [Bool.and_eq_true, decide_eq_true_eq, decide_eq_true_eq] at this
  exact this

theorem unitsThree (xs us : List Int) (hF : Follows 3 threeL xs us) (hC : checkP ((3 : Nat) : Int) threeL xs = 0) (hr : ∀ x ∈ xs, Rng x) (w : World) (g : Nat) (hR : RowsR .i64 w (some ⟨g, 0, none⟩) threeL) (ua : Option Addr) (uc : Nat) (xa : Option Addr) (xc : Nat) (hU : IntsR w ua us) (hX : IntsR w xa xs) (hul : us.length ≤ 3) (hxl : xs.length ≤ 3) {k kx : Nat} (hk : us.length = k) (hkx : xs.length = kx) :
    Calls Try.prog 18 #[.agg #[.int .i64 3, .slice (some ⟨g, 0, none⟩) 3 3], .slice ua k uc, .slice xa kx xc] w fun e w' => e = .returned (.bool true) ∧ Below w.heap.size w w' := by
  have hmx : maxLen = 9223372036854775807 := rfl
  exact unitsLaw_true (n := 3) _ _ _ _ _ _ _ (by decide) (by decide) threeL_all hR hU hX (by omega) threeL_rng hr hC hF rfl hk hkx (by omega)
theorem failsThree (xs : List Int) (hF : Fails threeL xs) (hC : checkP ((3 : Nat) : Int) threeL xs = 0) (hr : ∀ x ∈ xs, Rng x) (w : World) (g : Nat) (hR : RowsR .i64 w (some ⟨g, 0, none⟩) threeL) (xa : Option Addr) (xc : Nat) (hX : IntsR w xa xs) (hxl : xs.length ≤ 3) {kx : Nat} (hkx : xs.length = kx) :
    Calls Try.prog 20 #[.agg #[.int .i64 3, .slice (some ⟨g, 0, none⟩) 3 3], .slice xa kx xc] w fun e w' => e = .returned (.bool true) ∧ Below w.heap.size w w' := by
  have hmx : maxLen = 9223372036854775807 := rfl
  exact failsLaw_true (n := 3) _ _ _ _ _ (by decide) (by decide) threeL_all hR hX (by omega) threeL_rng hr hC hF rfl hkx
/-- Units of the example, with assumptions that are no literals of it. -/
theorem rangeThree (xs : List Int) (hC : checkP ((3 : Nat) : Int) threeL xs = 3) (hr : ∀ x ∈ xs, Rng x) (w : World) (g : Nat) (hR : RowsR .i64 w (some ⟨g, 0, none⟩) threeL) (xa : Option Addr) (xc : Nat) (hX : IntsR w xa xs) (hxl : xs.length ≤ 3) {kx : Nat} (hkx : xs.length = kx) :
    Calls Try.prog 13 #[.agg #[.int .i64 3, .slice (some ⟨g, 0, none⟩) 3 3], .slice xa kx xc] w fun e w' => e = .returned (.tuple #[.slice none 0 0, .bool false, .int .i64 3]) ∧ Below w.heap.size w w' := by
  have hmx : maxLen = 9223372036854775807 := rfl
  subst hkx
  refine (units_any (n := 3) (zss := threeL) (xs := xs) _ 3 xa xc w (by decide) (by decide) threeL_all hR hX (by omega) threeL_rng hr).mono ?_
  rintro e w' ⟨hB, h⟩
  refine ⟨?_, hB⟩
  rcases h with ⟨_, h⟩ | ⟨h, _⟩ | ⟨h, _⟩
  · rw [hC] at h; exact h
  · rw [hC] at h; exact absurd h (by decide)
  · rw [hC] at h; exact absurd h (by decide)

theorem unitsThreeLit {xs us : List Int} (hF : Follows 3 threeL xs us) (hC : checkP ((3 : Nat) : Int) threeL xs = 0) (hr : ∀ x ∈ xs, Rng x) (vs1 vs2 : Array Value) (h1 : vs1.toList = us.map (Value.int .i64)) (h2 : vs2.toList = xs.map (Value.int .i64)) (hul : us.length ≤ 3) (hxl : xs.length ≤ 3)
    (w : World) (g : Nat) (hR : RowsR .i64 w (some ⟨g, 0, none⟩) threeL) (uc xc : Nat) {k kx b1 b2 : Nat} (hk : us.length = k) (hkx : xs.length = kx) (hb1 : b1 = w.heap.size) (hb2 : b2 = w.heap.size + 1) :
    Calls Try.prog 18 #[.agg #[.int .i64 3, .slice (some ⟨g, 0, none⟩) 3 3], .slice (some ⟨b1, 0, none⟩) k uc, .slice (some ⟨b2, 0, none⟩) kx xc] ((w.alloc (.cells vs1 3)).alloc (.cells vs2 3)) fun e w' => e = .returned (.bool true) ∧ Below w.heap.size w w' := by
  refine (unitsThree xs us hF hC hr _ g ((hR.alloc _).alloc _) _ uc _ xc ((IntsR.lit w vs1 3 us hb1 h1).alloc _) (IntsR.lit _ vs2 3 xs (by rw [hb2]; simp) h2) hul hxl hk hkx).mono ?_
  rintro e w' ⟨he, hB⟩
  exact ⟨he, ((boxed w _).alloc (by simp) _).trans (hB.mono (by simp; omega))⟩
theorem failsThreeLit {xs : List Int} (hF : Fails threeL xs) (hC : checkP ((3 : Nat) : Int) threeL xs = 0) (hr : ∀ x ∈ xs, Rng x) (vs2 : Array Value) (h2 : vs2.toList = xs.map (Value.int .i64)) (hxl : xs.length ≤ 3)
    (w : World) (g : Nat) (hR : RowsR .i64 w (some ⟨g, 0, none⟩) threeL) (xc : Nat) {kx b2 : Nat} (hkx : xs.length = kx) (hb2 : b2 = w.heap.size) :
    Calls Try.prog 20 #[.agg #[.int .i64 3, .slice (some ⟨g, 0, none⟩) 3 3], .slice (some ⟨b2, 0, none⟩) kx xc] (w.alloc (.cells vs2 3)) fun e w' => e = .returned (.bool true) ∧ Below w.heap.size w w' := by
  refine (failsThree xs hF hC hr _ g (hR.alloc _) _ xc (IntsR.lit w vs2 3 xs hb2 h2) hxl hkx).mono ?_
  rintro e w' ⟨he, hB⟩
  exact ⟨he, (boxed w _).trans (hB.mono (by simp))⟩
theorem rangeThreeLit {xs : List Int} (hC : checkP ((3 : Nat) : Int) threeL xs = 3) (hr : ∀ x ∈ xs, Rng x) (vs2 : Array Value) (h2 : vs2.toList = xs.map (Value.int .i64)) (hxl : xs.length ≤ 3)
    (w : World) (g : Nat) (hR : RowsR .i64 w (some ⟨g, 0, none⟩) threeL) (xc : Nat) {kx b2 : Nat} (hkx : xs.length = kx) (hb2 : b2 = w.heap.size) :
    Calls Try.prog 13 #[.agg #[.int .i64 3, .slice (some ⟨g, 0, none⟩) 3 3], .slice (some ⟨b2, 0, none⟩) kx xc] (w.alloc (.cells vs2 3)) fun e w' => e = .returned (.tuple #[.slice none 0 0, .bool false, .int .i64 3]) ∧ Below w.heap.size w w' := by
  refine (rangeThree xs hC hr _ g (hR.alloc _) _ xc (IntsR.lit w vs2 3 xs hb2 h2) hxl hkx).mono ?_
  rintro e w' ⟨he, hB⟩
  exact ⟨he, (boxed w _).trans (hB.mono (by simp))⟩

theorem rows1 {W : World} {a1 : Option Addr} {c1 : Nat} {z : List Int} (h : IntsR W a1 z) (hc : z.length ≤ c1) (hm : c1 ≤ maxLen) {l b : Nat} (hl : z.length = l) (hb : b = W.heap.size) :
    RowsR .i64 (W.alloc (.cells #[.slice a1 l c1] 23)) (some ⟨b, 0, none⟩) [z] := by
  subst hl hb
  refine .inr ⟨_, 0, rfl, by simp, fun j hj => ?_⟩
  obtain rfl : j = 0 := by simpa using hj
  exact ⟨a1, c1, by rw [World.cell?_alloc_at _ _ _ _ rfl]; rfl, (KI.of h).alloc _, hc, hm⟩
theorem rows2 {W : World} {a1 a2 : Option Addr} {c1 c2 : Nat} {z y : List Int} (h : IntsR W a1 z) (hc : z.length ≤ c1) (hm : c1 ≤ maxLen) (h2 : IntsR W a2 y) (hc2 : y.length ≤ c2) (hm2 : c2 ≤ maxLen) {l l2 b : Nat} (hl : z.length = l) (hl2 : y.length = l2) (hb : b = W.heap.size) :
    RowsR .i64 (W.alloc (.cells #[.slice a1 l c1, .slice a2 l2 c2] 23)) (some ⟨b, 0, none⟩) [z, y] := by
  subst hl hl2 hb
  refine .inr ⟨_, 0, rfl, by simp, fun j hj => ?_⟩
  have : j = 0 ∨ j = 1 := by simp at hj; omega
  rcases this with rfl | rfl
  · exact ⟨a1, c1, by rw [World.cell?_alloc_at _ _ _ _ rfl]; rfl, (KI.of h).alloc _, hc, hm⟩
  · exact ⟨a2, c2, by rw [World.cell?_alloc_at _ _ _ _ rfl]; rfl, (KI.of h2).alloc _, hc2, hm2⟩
theorem allLen_of {zss : List (List Int)} (h : zss.all (fun z => decide (z.length ≤ 10)) = true) : AllLen zss := fun z hz => by
  rw [List.all_eq_true] at h
  have := of_decide_eq_true (h z hz)
  have hmx : maxLen = 9223372036854775807 := rfl
  omega
theorem rngs_of {zss : List (List Int)} (h : zss.all (fun l => l.all (fun x => decide (-9223372036854775808 ≤ x) && decide (x ≤ 9223372036854775807))) = true) : ∀ z ∈ zss, ∀ x ∈ z, Rng x := fun z hz => by
  rw [List.all_eq_true] at h
  exact rng_of (h z hz)

theorem failsPairs (w : World) : Calls Try.prog 20 #[.agg #[.int .i64 1, .slice (some ⟨w.heap.size + 1 + 1, 0, none⟩) 2 2], .slice none 0 0]
    (((w.alloc (.cells #[.int .i64 1, .int .i64 1] 3)).alloc (.cells #[.int .i64 (-1), .int .i64 (-1)] 3)).alloc (.cells #[.slice (some ⟨w.heap.size, 0, none⟩) 2 2, .slice (some ⟨w.heap.size + 1, 0, none⟩) 2 2] 23)) fun e w' => e = .returned (.bool true) ∧ Below w.heap.size w w' := by
  have hr := rows2 (W := (w.alloc (.cells #[.int .i64 1, .int .i64 1] 3)).alloc (.cells #[.int .i64 (-1), .int .i64 (-1)] 3)) (z := [1, 1]) (y := [-1, -1]) (c1 := 2) (c2 := 2) ((IntsR.lit w #[.int .i64 1, .int .i64 1] 3 [1, 1] rfl rfl).alloc _) (by decide) (by decide) (IntsR.lit _ #[.int .i64 (-1), .int .i64 (-1)] 3 [-1, -1] (b := w.heap.size + 1) (by simp) rfl) (by decide) (by decide) (l := 2) (l2 := 2) (b := w.heap.size + 1 + 1) rfl rfl (by simp)
  refine (failsLaw_true (n := 1) (zss := [[1, 1], [-1, -1]]) (xs := []) _ _ none 0 _ (by decide) (by decide) (allLen_of (by decide)) hr (.inl rfl) (by decide) (rngs_of (by decide)) (by simp) (by decide +kernel) n7 rfl rfl).mono ?_
  rintro e w' ⟨he, hB⟩
  exact ⟨he, (((boxed w _).alloc (by simp) _).alloc (by simp; omega) _).trans (hB.mono (by simp; omega))⟩
theorem failsEmpty (w : World) (t : TypeId) : Calls Try.prog 20 #[.agg #[.int .i64 0, .slice (some ⟨w.heap.size + 1, 0, none⟩) 1 1], .slice none 0 0]
    ((w.alloc (.cells #[] t)).alloc (.cells #[.slice (some ⟨w.heap.size, 0, none⟩) 0 0] 23)) fun e w' => e = .returned (.bool true) ∧ Below w.heap.size w w' := by
  have hr := rows1 (W := w.alloc (.cells #[] t)) (a1 := some ⟨w.heap.size, 0, none⟩) (z := []) (c1 := 0) (.inl rfl) (by decide) (by decide) (l := 0) (b := w.heap.size + 1) rfl (by simp)
  refine (failsLaw_true (n := 0) (zss := [[]]) (xs := []) _ _ none 0 _ (by decide) (by decide) (allLen_of (by decide)) hr (.inl rfl) (by decide) (rngs_of (by decide)) (by simp) (by decide +kernel) n8 rfl rfl).mono ?_
  rintro e w' ⟨he, hB⟩
  exact ⟨he, ((boxed w _).alloc (by simp) _).trans (hB.mono (by simp; omega))⟩
theorem unitsPair (w : World) : Calls Try.prog 18 #[.agg #[.int .i64 2, .slice (some ⟨w.heap.size + 1, 0, none⟩) 1 1], .slice (some ⟨w.heap.size + 1 + 1, 0, none⟩) 1 1, .slice (some ⟨w.heap.size + 1 + 1 + 1, 0, none⟩) 1 1]
    ((((w.alloc (.cells #[.int .i64 1, .int .i64 (-1)] 3)).alloc (.cells #[.slice (some ⟨w.heap.size, 0, none⟩) 2 2] 23)).alloc (.cells #[.int .i64 (-2)] 3)).alloc (.cells #[.int .i64 (-2)] 3)) fun e w' => e = .returned (.bool true) ∧ Below w.heap.size w w' := by
  have hr := rows1 (W := w.alloc (.cells #[.int .i64 1, .int .i64 (-1)] 3)) (z := [1, -1]) (c1 := 2) (IntsR.lit w #[.int .i64 1, .int .i64 (-1)] 3 [1, -1] rfl rfl) (by decide) (by decide) (l := 2) (b := w.heap.size + 1) rfl (by simp)
  refine (unitsLaw_true (n := 2) (zss := [[1, -1]]) (xs := [-2]) (us := [-2]) _ _ _ _ _ _ _ (by decide) (by decide) (allLen_of (by decide)) ((hr.alloc _).alloc _) ((IntsR.lit _ #[.int .i64 (-2)] 3 [-2] (by simp) rfl).alloc _) (IntsR.lit _ #[.int .i64 (-2)] 3 [-2] (by simp) rfl) (by decide) (rngs_of (by decide)) (rng_of (by decide)) (by decide +kernel) n9 rfl rfl rfl (by decide)).mono ?_
  rintro e w' ⟨he, hB⟩
  exact ⟨he, ((((boxed w _).alloc (by simp) _).alloc (by simp; omega) _).alloc (by simp; omega) _).trans (hB.mono (by simp; omega))⟩

set_option maxHeartbeats 8000000 in
theorem propNames_walk (w : World) : Calls Try.prog 5 #[] w fun e w' => e = .returned (.bool true) ∧ Below w.heap.size w w' := by
  have U1 := Lib.hid (unitsThree [] [] n1 (by decide +kernel) (by simp))
  have U2 := Lib.hid (fun W g hR => unitsThreeLit n2 (by decide +kernel) (rng_of (by decide)) #[.int .i64 (-1), .int .i64 2, .int .i64 (-3)] #[.int .i64 (-1)] rfl rfl (by decide) (by decide) W g hR 3 1 (k := 3) (kx := 1) rfl rfl rfl rfl)
  have U3 := Lib.hid (fun W g hR => unitsThreeLit n3 (by decide +kernel) (rng_of (by decide)) #[.int .i64 1, .int .i64 (-2), .int .i64 3] #[.int .i64 (-2), .int .i64 3] rfl rfl (by decide) (by decide) W g hR 3 2 (k := 3) (kx := 2) rfl rfl rfl rfl)
  have U4 := Lib.hid (fun W g hR => unitsThreeLit n4 (by decide +kernel) (rng_of (by decide)) #[.int .i64 1, .int .i64 (-2), .int .i64 3] #[.int .i64 1, .int .i64 1] rfl rfl (by decide) (by decide) W g hR 3 2 (k := 3) (kx := 2) rfl rfl rfl rfl)
  have U5 := Lib.hid (fun W g hR => failsThreeLit n5 (by decide +kernel) (rng_of (by decide)) #[.int .i64 1, .int .i64 2] rfl (by decide) W g hR 2 (kx := 2) rfl rfl)
  have U6 := Lib.hid (fun W g hR => failsThreeLit n6 (by decide +kernel) (rng_of (by decide)) #[.int .i64 1, .int .i64 (-1)] rfl (by decide) W g hR 2 (kx := 2) rfl rfl)
  have U9 := Lib.hid (fun W g hR => rangeThreeLit (xs := [4]) (by decide +kernel) (rng_of (by decide)) #[.int .i64 4] rfl (by decide) W g hR 1 (kx := 1) rfl rfl)
  have U10 := Lib.hid (fun W g hR => rangeThreeLit (xs := [0]) (by decide +kernel) (rng_of (by decide)) #[.int .i64 0] rfl (by decide) W g hR 1 (kx := 1) rfl rfl)
  have U11 := Lib.hid (fun W g hR => rangeThreeLit (xs := [1, -1, -9223372036854775808]) (by decide +kernel) (rng_of (by decide)) #[.int .i64 1, .int .i64 (-1), .int .i64 (-9223372036854775808)] rfl (by decide) W g hR 3 (kx := 3) rfl rfl)
  go_enter Try.func5, Try.ntmps5
  go_wp2_with fail
  refine (threeP_any _).mono ?_
  rintro e w1 ⟨g, rfl, hG, hB⟩
  have HG := Lib.hid hG.rows
  have HB := Lib.hid hB
  clear hG hB
  go_wp2_with fail
  refine (U1.out _ _ HG.out none 0 none 0 (.inl rfl) (.inl rfl) (by decide) (by decide) rfl rfl).mono ?_
  rintro e w2 ⟨rfl, hB⟩
  have HB2 := Lib.hid (HB.out.trans (hB.mono HB.out.size))
  clear hB HB HG U1
  go_wp2_with fail
  refine (threeP_any _).mono ?_
  rintro e w3 ⟨g, rfl, hG, hB⟩
  have HG := Lib.hid hG.rows
  have HB3 := Lib.hid (HB2.out.trans (hB.mono HB2.out.size))
  clear hG hB HB2
  go_wp2_with fail
  refine (U2.out _ _ HG.out).mono ?_
  rintro e w4 ⟨rfl, hB⟩
  have HB4 := Lib.hid (HB3.out.trans (hB.mono HB3.out.size))
  clear hB HG U2 HB3
  go_wp2_with fail
  refine (threeP_any _).mono ?_
  rintro e w5 ⟨g, rfl, hG, hB⟩
  have HG := Lib.hid hG.rows
  have HB5 := Lib.hid (HB4.out.trans (hB.mono HB4.out.size))
  clear hG hB HB4
  go_wp2_with fail
  refine (U3.out _ _ HG.out).mono ?_
  rintro e w6 ⟨rfl, hB⟩
  have HB6 := Lib.hid (HB5.out.trans (hB.mono HB5.out.size))
  clear hB HG U3 HB5
  go_wp2_with fail
  refine (threeP_any _).mono ?_
  rintro e w7 ⟨g, rfl, hG, hB⟩
  have HG := Lib.hid hG.rows
  have HB7 := Lib.hid (HB6.out.trans (hB.mono HB6.out.size))
  clear hG hB HB6
  go_wp2_with fail
  refine (U4.out _ _ HG.out).mono ?_
  rintro e w8 ⟨rfl, hB⟩
  have HB8 := Lib.hid (HB7.out.trans (hB.mono HB7.out.size))
  clear hB HG U4 HB7
  go_wp2_with fail
  refine (threeP_any _).mono ?_
  rintro e w9 ⟨g, rfl, hG, hB⟩
  have HG := Lib.hid hG.rows
  have HB9 := Lib.hid (HB8.out.trans (hB.mono HB8.out.size))
  clear hG hB HB8
  go_wp2_with fail
  refine (U5.out _ _ HG.out).mono ?_
  rintro e w10 ⟨rfl, hB⟩
  have HB10 := Lib.hid (HB9.out.trans (hB.mono HB9.out.size))
  clear hB HG U5 HB9
  go_wp2_with fail
  refine (threeP_any _).mono ?_
  rintro e w11 ⟨g, rfl, hG, hB⟩
  have HG := Lib.hid hG.rows
  have HB11 := Lib.hid (HB10.out.trans (hB.mono HB10.out.size))
  clear hG hB HB10
  go_wp2_with fail
  refine (U6.out _ _ HG.out).mono ?_
  rintro e w12 ⟨rfl, hB⟩
  have HB12 := Lib.hid (HB11.out.trans (hB.mono HB11.out.size))
  clear hB HG U6 HB11
  go_wp2_with fail
  refine (failsPairs _).mono ?_
  rintro e w13 ⟨rfl, hB⟩
  have HB13 := Lib.hid (HB12.out.trans (hB.mono HB12.out.size))
  clear hB HB12
  go_wp2_with fail
  refine (failsEmpty _ _).mono ?_
  rintro e w14 ⟨rfl, hB⟩
  have HB14 := Lib.hid (HB13.out.trans (hB.mono HB13.out.size))
  clear hB HB13
  go_wp2_with fail
  refine (threeP_any _).mono ?_
  rintro e w15 ⟨g, rfl, hG, hB⟩
  have HG := Lib.hid hG.rows
  have HB15 := Lib.hid (HB14.out.trans (hB.mono HB14.out.size))
  clear hG hB HB14
  go_wp2_with fail
  refine (U9.out _ _ HG.out).mono ?_
  rintro e w16 ⟨rfl, hB⟩
  have HB16 := Lib.hid (HB15.out.trans (hB.mono HB15.out.size))
  clear hB HG U9 HB15
  go_wp2_with fail
  refine (threeP_any _).mono ?_
  rintro e w17 ⟨g, rfl, hG, hB⟩
  have HG := Lib.hid hG.rows
  have HB17 := Lib.hid (HB16.out.trans (hB.mono HB16.out.size))
  clear hG hB HB16
  go_wp2_with fail
  refine (U10.out _ _ HG.out).mono ?_
  rintro e w18 ⟨rfl, hB⟩
  have HB18 := Lib.hid (HB17.out.trans (hB.mono HB17.out.size))
  clear hB HG U10 HB17
  go_wp2_with fail
  refine (threeP_any _).mono ?_
  rintro e w19 ⟨g, rfl, hG, hB⟩
  have HG := Lib.hid hG.rows
  have HB19 := Lib.hid (HB18.out.trans (hB.mono HB18.out.size))
  clear hG hB HB18
  go_wp2_with fail
  refine (U11.out _ _ HG.out).mono ?_
  rintro e w20 ⟨rfl, hB⟩
  have HB20 := Lib.hid (HB19.out.trans (hB.mono HB19.out.size))
  clear hB HG U11 HB19
  go_wp2_with fail
  refine (unitsPair _).mono ?_
  rintro e w21 ⟨rfl, hB⟩
  have HB21 := Lib.hid (HB20.out.trans (hB.mono HB20.out.size))
  clear hB HB20
  go_wp2_with fail
  refine (knownP_any _).mono ?_
  rintro e w22 ⟨rfl, hB⟩
  have HB22 := Lib.hid (HB21.out.trans (hB.mono HB21.out.size))
  clear hB HB21
  go_wp2
  go_ret
  exact ⟨rfl, HB22.out⟩
end Go.Proofs.Ytjpjhpokimdblaa
