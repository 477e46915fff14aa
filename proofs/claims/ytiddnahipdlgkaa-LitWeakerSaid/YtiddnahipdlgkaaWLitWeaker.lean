/-
  LitWeaker's walk.
-/
import Derived.Test.YtiddnahipdlgkaaLitK
import Derived.Laws.AppendOwnNone
namespace Go.Proofs.Ytiddnahipdlgkaa
open Go.RowKit Go.Lib
open Go.RowKit (Below)

theorem check_append (n : Int) (cs ds : List Int) (hc : cs.length ≤ 40) (hd : ds.length ≤ 40) :
    (checkI n cs ≠ 0 ∧ checkI n (cs ++ ds) ≠ 0) ∨ (checkI n cs = 0 ∧ checkI n ds ≠ 0 ∧ checkI n (cs ++ ds) ≠ 0) ∨ (checkI n cs = 0 ∧ checkI n ds = 0 ∧ checkI n (cs ++ ds) = 0) := by
  by_cases h1 : n < 0
  · left; rw [checkI_neg _ _ h1, checkI_neg _ _ h1]; omega
  by_cases h2 : 1048576 < n
  · left; rw [checkI_big _ _ h2, checkI_big _ _ h2]; omega
  have hl : (cs ++ ds).length = cs.length + ds.length := by simp
  cases p : cs.any (badB n)
  · have e1 := checkI_ok n cs h1 h2 (by omega) p
    cases q : ds.any (badB n)
    · right; right
      exact ⟨e1, checkI_ok n ds h1 h2 (by omega) q, checkI_ok n _ h1 h2 (by omega) (by rw [List.any_append, p, q]; rfl)⟩
    · right; left
      refine ⟨e1, ?_, ?_⟩
      · rw [checkI_bad n ds h1 h2 (by omega) q]; omega
      · rw [checkI_bad n _ h1 h2 (by omega) (by rw [List.any_append, p, q]; rfl)]; omega
  · left
    refine ⟨?_, ?_⟩
    · rw [checkI_bad n cs h1 h2 (by omega) p]; omega
    · rw [checkI_bad n _ h1 h2 (by omega) (by rw [List.any_append, p]; rfl)]; omega
theorem check_cases (n : Int) (cs ds : List Int) (hc : cs.length ≤ 40) (hd : ds.length ≤ 40) :
    (checkI n cs ≠ 0 ∧ checkI n (cs ++ ds) ≠ 0) ∨ (Hid (checkI n cs = 0) ∧ checkI n ds ≠ 0 ∧ checkI n (cs ++ ds) ≠ 0) ∨ (Hid (checkI n cs = 0) ∧ Hid (checkI n ds = 0) ∧ Hid (checkI n (cs ++ ds) = 0)) := check_append n cs ds hc hd
theorem two_bools (p q : Bool) : p = true ∨ (p = false ∧ q = true) ∨ (p = false ∧ q = false) := by cases p <;> cases q <;> simp

theorem known_law (w : World) : Calls Try.prog 12 #[] w fun e w' => e = .returned (.bool true) ∧ Below w.heap.size w w' := known_any w

set_option maxHeartbeats 4000000 in
theorem litWeaker_walk (w : World) (a : Option Addr) (c : Nat) (cs : List Int) (hC : IntsR w a cs) (_ : ∀ x ∈ cs, (Lit.int .i64 x).wf = true) (hmc : cs.length ≤ maxLen) (b : Option Addr) (d : Nat) (ds : List Int) (hD : IntsR w b ds) (_ : ∀ x ∈ ds, (Lit.int .i64 x).wf = true) (hmd : ds.length ≤ maxLen) (hnil : b = none → d = 0)
    (f : Option Addr) (g : Nat) (m : List Bool) (hM : BoolsR w f m) (hmm : m.length ≤ maxLen) (n : Int) (_ : (Lit.int .i64 n).wf = true) :
    Calls Try.prog 11 #[.slice a cs.length c, .slice b ds.length d, .slice f m.length g, .int .i64 n] w fun e w' => e = .returned (.bool true) ∧ Below w.heap.size w w' := by
  unfold maxLen at hmc hmd hmm
  have hK := known_any w
  by_cases hl1 : 40 < cs.length
  · go_enter Try.func11, Try.ntmps11
    go_wp2_with (go_at_call 12; refine hK.mono ?_; rintro e w' ⟨rfl, hB⟩)
    go_ret
    exact ⟨rfl, hB⟩
  by_cases hl2 : 40 < ds.length
  · go_enter Try.func11, Try.ntmps11
    go_wp2_with (go_at_call 12; refine hK.mono ?_; rintro e w' ⟨rfl, hB⟩)
    go_ret
    exact ⟨rfl, hB⟩
  by_cases hl3 : 100 < m.length
  · go_enter Try.func11, Try.ntmps11
    go_wp2_with (go_at_call 12; refine hK.mono ?_; rintro e w' ⟨rfl, hB⟩)
    go_ret
    exact ⟨rfl, hB⟩
  have k1 : cs.length ≤ 40 := by omega
  have k2 : ds.length ≤ 40 := by omega
  have k3 : m.length ≤ 100 := by omega
  have hxyz := check_cases n cs ds k1 k2
  have hpq := two_bools (cs.any (holdsL m)) (ds.any (holdsL m))
  have HXYZ := Lib.hid hxyz
  have HPQ := Lib.hid hpq
  clear hl1 hl2 hl3 hK hxyz hpq
  obtain ⟨i0, hi, hz0, hz1, hz2⟩ := info_parts Try.info3
  cases b with
  | none =>
    have hd0 : ds = [] := by
      rcases hD with h | ⟨_, _, h, _⟩
      · exact List.eq_nil_of_length_eq_zero h
      · cases h
    have HD0 := Lib.hid hd0
    clear hd0
    obtain rfl : d = 0 := hnil rfl
    clear hnil
    go_enter Try.func11, Try.ntmps11
    go_wp2_with fail
    refine (copyInts_any a c cs w (by omega) hC).mono ?_
    rintro e w2 ⟨v, rfl, hown, hB2⟩
    have HO := Lib.hid hown
    go_wp2_with (at_builtin; refine wpList_append_own_none rfl _ _ 22 rfl w.heap.size 3 i0 1 Try.underlying22 hi _ _ _ rfl HO.out ?c7 ?_)
    case c7 => show Value.slice none ds.length 0 = Value.slice none 0 0; rw [HD0.out]; rfl
    have hown2 : Own w2 w.heap.size v (cs ++ ds) := by rw [HD0.out, List.append_nil]; exact hown
    obtain ⟨a3, c3, rfl, hR3⟩ := hown2.reads
    have hC3 := hC.below hB2
    have hD3 := hD.below hB2
    have hM3 := hM.below hB2
    have B3 := Lib.hid hB2
    have hl3 : (cs ++ ds).length = cs.length + ds.length := by simp
    rw [hl3]
    clear hown hown2 hB2 hC hM HO HD0
    have hpq := HPQ.out
    have hxyz := HXYZ.out
    clear HPQ HXYZ
    rcases hpq with hp | ⟨hp, hq⟩ | ⟨hp, hq⟩
    · go_wp2_with fail
      refine (holds_is (zs := cs ++ ds) (r := true) rfl hl3 (by simp [hp]) _ _ _ _ _ (by unfold maxLen; omega) (by unfold maxLen; omega) hM3 hR3).mono ?_
      rintro e w9 ⟨rfl, rfl⟩
      go_wp2_with fail
      refine (holds_is (zs := cs) (r := true) rfl rfl hp _ _ _ _ _ (by unfold maxLen; omega) (by unfold maxLen; omega) hM3 hC3).mono ?_
      rintro e w9 ⟨rfl, rfl⟩
      rcases hxyz with ⟨hx, hz⟩ | ⟨hx, hy, hz⟩ | ⟨hx, hy, hz⟩
      · have n1 : (checkI n cs == 0) = false := by simp [hx]
        have n2 : (checkI n (cs ++ ds) == 0) = false := by simp [hz]
        clear hx hz
        go_wp2_with fail
        refine (check_is (zs := cs ++ ds) (r := checkI n (cs ++ ds)) hl3 rfl _ _ _ (by unfold maxLen; omega) hR3).mono ?_
        rintro e w9 ⟨rfl, rfl⟩
        go_wp2_with fail
        refine (check_is (zs := cs) (r := checkI n cs) rfl rfl _ _ _ (by unfold maxLen; omega) hC3).mono ?_
        rintro e w9 ⟨rfl, rfl⟩
        go_wp2_with fail
        refine (known_any _).mono ?_
        rintro e w9 ⟨rfl, hB⟩
        go_wp2
        go_ret
        exact ⟨rfl, B3.out.trans (hB.mono B3.out.size)⟩
      · have n1 : (checkI n ds == 0) = false := by simp [hy]
        have n2 : (checkI n (cs ++ ds) == 0) = false := by simp [hz]
        clear hy hz
        go_wp2_with fail
        refine (check_is (zs := cs ++ ds) (r := checkI n (cs ++ ds)) hl3 rfl _ _ _ (by unfold maxLen; omega) hR3).mono ?_
        rintro e w9 ⟨rfl, rfl⟩
        go_wp2_with fail
        refine (check_is (zs := cs) (r := 0) rfl hx.out _ _ _ (by unfold maxLen; omega) hC3).mono ?_
        rintro e w9 ⟨rfl, rfl⟩
        go_wp2_with fail
        refine (check_is (zs := ds) (r := checkI n ds) rfl rfl _ _ _ (by unfold maxLen; omega) hD3).mono ?_
        rintro e w9 ⟨rfl, rfl⟩
        go_wp2_with fail
        refine (known_any _).mono ?_
        rintro e w9 ⟨rfl, hB⟩
        go_wp2
        go_ret
        exact ⟨rfl, B3.out.trans (hB.mono B3.out.size)⟩
      · go_wp2_with fail
        refine (check_is (zs := cs ++ ds) (r := 0) hl3 hz.out _ _ _ (by unfold maxLen; omega) hR3).mono ?_
        rintro e w9 ⟨rfl, rfl⟩
        go_wp2_with fail
        refine (check_is (zs := cs) (r := 0) rfl hx.out _ _ _ (by unfold maxLen; omega) hC3).mono ?_
        rintro e w9 ⟨rfl, rfl⟩
        go_wp2_with fail
        refine (check_is (zs := ds) (r := 0) rfl hy.out _ _ _ (by unfold maxLen; omega) hD3).mono ?_
        rintro e w9 ⟨rfl, rfl⟩
        go_wp2_with fail
        refine (known_any _).mono ?_
        rintro e w9 ⟨rfl, hB⟩
        go_wp2
        go_ret
        exact ⟨rfl, B3.out.trans (hB.mono B3.out.size)⟩
    · go_wp2_with fail
      refine (holds_is (zs := cs ++ ds) (r := true) rfl hl3 (by simp [hp, hq]) _ _ _ _ _ (by unfold maxLen; omega) (by unfold maxLen; omega) hM3 hR3).mono ?_
      rintro e w9 ⟨rfl, rfl⟩
      go_wp2_with fail
      refine (holds_is (zs := cs) (r := false) rfl rfl hp _ _ _ _ _ (by unfold maxLen; omega) (by unfold maxLen; omega) hM3 hC3).mono ?_
      rintro e w9 ⟨rfl, rfl⟩
      go_wp2_with fail
      refine (holds_is (zs := ds) (r := true) rfl rfl hq _ _ _ _ _ (by unfold maxLen; omega) (by unfold maxLen; omega) hM3 hD3).mono ?_
      rintro e w9 ⟨rfl, rfl⟩
      rcases hxyz with ⟨hx, hz⟩ | ⟨hx, hy, hz⟩ | ⟨hx, hy, hz⟩
      · have n1 : (checkI n cs == 0) = false := by simp [hx]
        have n2 : (checkI n (cs ++ ds) == 0) = false := by simp [hz]
        clear hx hz
        go_wp2_with fail
        refine (check_is (zs := cs ++ ds) (r := checkI n (cs ++ ds)) hl3 rfl _ _ _ (by unfold maxLen; omega) hR3).mono ?_
        rintro e w9 ⟨rfl, rfl⟩
        go_wp2_with fail
        refine (check_is (zs := cs) (r := checkI n cs) rfl rfl _ _ _ (by unfold maxLen; omega) hC3).mono ?_
        rintro e w9 ⟨rfl, rfl⟩
        go_wp2_with fail
        refine (known_any _).mono ?_
        rintro e w9 ⟨rfl, hB⟩
        go_wp2
        go_ret
        exact ⟨rfl, B3.out.trans (hB.mono B3.out.size)⟩
      · have n1 : (checkI n ds == 0) = false := by simp [hy]
        have n2 : (checkI n (cs ++ ds) == 0) = false := by simp [hz]
        clear hy hz
        go_wp2_with fail
        refine (check_is (zs := cs ++ ds) (r := checkI n (cs ++ ds)) hl3 rfl _ _ _ (by unfold maxLen; omega) hR3).mono ?_
        rintro e w9 ⟨rfl, rfl⟩
        go_wp2_with fail
        refine (check_is (zs := cs) (r := 0) rfl hx.out _ _ _ (by unfold maxLen; omega) hC3).mono ?_
        rintro e w9 ⟨rfl, rfl⟩
        go_wp2_with fail
        refine (check_is (zs := ds) (r := checkI n ds) rfl rfl _ _ _ (by unfold maxLen; omega) hD3).mono ?_
        rintro e w9 ⟨rfl, rfl⟩
        go_wp2_with fail
        refine (known_any _).mono ?_
        rintro e w9 ⟨rfl, hB⟩
        go_wp2
        go_ret
        exact ⟨rfl, B3.out.trans (hB.mono B3.out.size)⟩
      · go_wp2_with fail
        refine (check_is (zs := cs ++ ds) (r := 0) hl3 hz.out _ _ _ (by unfold maxLen; omega) hR3).mono ?_
        rintro e w9 ⟨rfl, rfl⟩
        go_wp2_with fail
        refine (check_is (zs := cs) (r := 0) rfl hx.out _ _ _ (by unfold maxLen; omega) hC3).mono ?_
        rintro e w9 ⟨rfl, rfl⟩
        go_wp2_with fail
        refine (check_is (zs := ds) (r := 0) rfl hy.out _ _ _ (by unfold maxLen; omega) hD3).mono ?_
        rintro e w9 ⟨rfl, rfl⟩
        go_wp2_with fail
        refine (known_any _).mono ?_
        rintro e w9 ⟨rfl, hB⟩
        go_wp2
        go_ret
        exact ⟨rfl, B3.out.trans (hB.mono B3.out.size)⟩
    · go_wp2_with fail
      refine (holds_is (zs := cs ++ ds) (r := false) rfl hl3 (by simp only [List.any_append, hp, hq]; rfl) _ _ _ _ _ (by unfold maxLen; omega) (by unfold maxLen; omega) hM3 hR3).mono ?_
      rintro e w9 ⟨rfl, rfl⟩
      go_wp2_with fail
      refine (holds_is (zs := cs) (r := false) rfl rfl hp _ _ _ _ _ (by unfold maxLen; omega) (by unfold maxLen; omega) hM3 hC3).mono ?_
      rintro e w9 ⟨rfl, rfl⟩
      go_wp2_with fail
      refine (holds_is (zs := ds) (r := false) rfl rfl hq _ _ _ _ _ (by unfold maxLen; omega) (by unfold maxLen; omega) hM3 hD3).mono ?_
      rintro e w9 ⟨rfl, rfl⟩
      rcases hxyz with ⟨hx, hz⟩ | ⟨hx, hy, hz⟩ | ⟨hx, hy, hz⟩
      · have n1 : (checkI n cs == 0) = false := by simp [hx]
        have n2 : (checkI n (cs ++ ds) == 0) = false := by simp [hz]
        clear hx hz
        go_wp2_with fail
        refine (check_is (zs := cs ++ ds) (r := checkI n (cs ++ ds)) hl3 rfl _ _ _ (by unfold maxLen; omega) hR3).mono ?_
        rintro e w9 ⟨rfl, rfl⟩
        go_wp2_with fail
        refine (check_is (zs := cs) (r := checkI n cs) rfl rfl _ _ _ (by unfold maxLen; omega) hC3).mono ?_
        rintro e w9 ⟨rfl, rfl⟩
        go_wp2_with fail
        refine (known_any _).mono ?_
        rintro e w9 ⟨rfl, hB⟩
        go_wp2
        go_ret
        exact ⟨rfl, B3.out.trans (hB.mono B3.out.size)⟩
      · have n1 : (checkI n ds == 0) = false := by simp [hy]
        have n2 : (checkI n (cs ++ ds) == 0) = false := by simp [hz]
        clear hy hz
        go_wp2_with fail
        refine (check_is (zs := cs ++ ds) (r := checkI n (cs ++ ds)) hl3 rfl _ _ _ (by unfold maxLen; omega) hR3).mono ?_
        rintro e w9 ⟨rfl, rfl⟩
        go_wp2_with fail
        refine (check_is (zs := cs) (r := 0) rfl hx.out _ _ _ (by unfold maxLen; omega) hC3).mono ?_
        rintro e w9 ⟨rfl, rfl⟩
        go_wp2_with fail
        refine (check_is (zs := ds) (r := checkI n ds) rfl rfl _ _ _ (by unfold maxLen; omega) hD3).mono ?_
        rintro e w9 ⟨rfl, rfl⟩
        go_wp2_with fail
        refine (known_any _).mono ?_
        rintro e w9 ⟨rfl, hB⟩
        go_wp2
        go_ret
        exact ⟨rfl, B3.out.trans (hB.mono B3.out.size)⟩
      · go_wp2_with fail
        refine (check_is (zs := cs ++ ds) (r := 0) hl3 hz.out _ _ _ (by unfold maxLen; omega) hR3).mono ?_
        rintro e w9 ⟨rfl, rfl⟩
        go_wp2_with fail
        refine (check_is (zs := cs) (r := 0) rfl hx.out _ _ _ (by unfold maxLen; omega) hC3).mono ?_
        rintro e w9 ⟨rfl, rfl⟩
        go_wp2_with fail
        refine (check_is (zs := ds) (r := 0) rfl hy.out _ _ _ (by unfold maxLen; omega) hD3).mono ?_
        rintro e w9 ⟨rfl, rfl⟩
        go_wp2_with fail
        refine (known_any _).mono ?_
        rintro e w9 ⟨rfl, hB⟩
        go_wp2
        go_ret
        exact ⟨rfl, B3.out.trans (hB.mono B3.out.size)⟩
  | some ad =>
    go_enter Try.func11, Try.ntmps11
    go_wp2_with fail
    refine (copyInts_any a c cs w (by omega) hC).mono ?_
    rintro e w1 ⟨v, rfl, hown, hB1⟩
    have hD1 := hD.below hB1
    have HO := Lib.hid hown
    have B1 := Lib.hid hB1
    have HD1 := Lib.hid hD1
    have hs1 := hB1.size
    clear hown hB1 hD1
    go_wp2_with (at_builtin; refine wpList_append_own _ rfl _ _ 22 rfl w.heap.size 3 i0 (.int .i64 0) 1 8 Try.underlying22 hi hz0 hz1 hz2 rfl (by decide) _ _ _ rfl HO.out ad ds.length d (ds.map (Value.int .i64)) rfl ?c1 ?c2 ?c3 ?c4 ?c5 ?c6 ?_)
    case c1 => simp
    case c2 =>
      intro j u hj
      have hjl : j < ds.length := by have := (List.getElem?_eq_some_iff.1 hj).1; simpa using this
      rcases HD1.out with h | ⟨b', off, h, _, hc⟩
      · omega
      · injection h with h
        subst h
        rw [Addr.add_lit, hc j hjl]
        rw [List.getElem?_map, getD_some ds 0 j hjl] at hj
        exact hj
    case c3 => intro u hu; obtain ⟨x, _, rfl⟩ := List.mem_map.1 hu; rfl
    case c4 => unfold maxLen; omega
    case c5 => omega
    case c6 => exact hs1
    intro v' w2 hown' hgrow _
    have hB2 : Below w.heap.size w w2 := B1.out.grown hgrow B1.out.size (fun k hk => (HO.out.lt k hk).1)
    have hown2 : Own w2 w.heap.size v' (cs ++ ds) := Own.of hown' (by simp) (by simp)
    obtain ⟨a3, c3, rfl, hR3⟩ := hown2.reads
    have hC3 := hC.below hB2
    have hD3 := hD.below hB2
    have hM3 := hM.below hB2
    have B3 := Lib.hid hB2
    have hl3 : (cs ++ ds).length = cs.length + ds.length := by simp
    rw [hl3]
    have HL3 := Lib.hid hl3
    clear hown' hgrow hown2 hB2 hC hD hM HO B1
    have hpq := HPQ.out
    have hxyz := HXYZ.out
    clear HPQ HXYZ
    rcases hpq with hp | ⟨hp, hq⟩ | ⟨hp, hq⟩
    · go_wp2_with fail
      refine (holds_is (zs := cs ++ ds) (r := true) rfl hl3 (by simp [hp]) _ _ _ _ _ (by unfold maxLen; omega) (by unfold maxLen; omega) hM3 hR3).mono ?_
      rintro e w9 ⟨rfl, rfl⟩
      go_wp2_with fail
      refine (holds_is (zs := cs) (r := true) rfl rfl hp _ _ _ _ _ (by unfold maxLen; omega) (by unfold maxLen; omega) hM3 hC3).mono ?_
      rintro e w9 ⟨rfl, rfl⟩
      rcases hxyz with ⟨hx, hz⟩ | ⟨hx, hy, hz⟩ | ⟨hx, hy, hz⟩
      · have n1 : (checkI n cs == 0) = false := by simp [hx]
        have n2 : (checkI n (cs ++ ds) == 0) = false := by simp [hz]
        clear hx hz
        go_wp2_with fail
        refine (check_is (zs := cs ++ ds) (r := checkI n (cs ++ ds)) hl3 rfl _ _ _ (by unfold maxLen; omega) hR3).mono ?_
        rintro e w9 ⟨rfl, rfl⟩
        go_wp2_with fail
        refine (check_is (zs := cs) (r := checkI n cs) rfl rfl _ _ _ (by unfold maxLen; omega) hC3).mono ?_
        rintro e w9 ⟨rfl, rfl⟩
        go_wp2_with fail
        refine (known_any _).mono ?_
        rintro e w9 ⟨rfl, hB⟩
        go_wp2
        go_ret
        exact ⟨rfl, B3.out.trans (hB.mono B3.out.size)⟩
      · have n1 : (checkI n ds == 0) = false := by simp [hy]
        have n2 : (checkI n (cs ++ ds) == 0) = false := by simp [hz]
        clear hy hz
        go_wp2_with fail
        refine (check_is (zs := cs ++ ds) (r := checkI n (cs ++ ds)) hl3 rfl _ _ _ (by unfold maxLen; omega) hR3).mono ?_
        rintro e w9 ⟨rfl, rfl⟩
        go_wp2_with fail
        refine (check_is (zs := cs) (r := 0) rfl hx.out _ _ _ (by unfold maxLen; omega) hC3).mono ?_
        rintro e w9 ⟨rfl, rfl⟩
        go_wp2_with fail
        refine (check_is (zs := ds) (r := checkI n ds) rfl rfl _ _ _ (by unfold maxLen; omega) hD3).mono ?_
        rintro e w9 ⟨rfl, rfl⟩
        go_wp2_with fail
        refine (known_any _).mono ?_
        rintro e w9 ⟨rfl, hB⟩
        go_wp2
        go_ret
        exact ⟨rfl, B3.out.trans (hB.mono B3.out.size)⟩
      · go_wp2_with fail
        refine (check_is (zs := cs ++ ds) (r := 0) hl3 hz.out _ _ _ (by unfold maxLen; omega) hR3).mono ?_
        rintro e w9 ⟨rfl, rfl⟩
        go_wp2_with fail
        refine (check_is (zs := cs) (r := 0) rfl hx.out _ _ _ (by unfold maxLen; omega) hC3).mono ?_
        rintro e w9 ⟨rfl, rfl⟩
        go_wp2_with fail
        refine (check_is (zs := ds) (r := 0) rfl hy.out _ _ _ (by unfold maxLen; omega) hD3).mono ?_
        rintro e w9 ⟨rfl, rfl⟩
        go_wp2_with fail
        refine (known_any _).mono ?_
        rintro e w9 ⟨rfl, hB⟩
        go_wp2
        go_ret
        exact ⟨rfl, B3.out.trans (hB.mono B3.out.size)⟩
    · go_wp2_with fail
      refine (holds_is (zs := cs ++ ds) (r := true) rfl hl3 (by simp [hp, hq]) _ _ _ _ _ (by unfold maxLen; omega) (by unfold maxLen; omega) hM3 hR3).mono ?_
      rintro e w9 ⟨rfl, rfl⟩
      go_wp2_with fail
      refine (holds_is (zs := cs) (r := false) rfl rfl hp _ _ _ _ _ (by unfold maxLen; omega) (by unfold maxLen; omega) hM3 hC3).mono ?_
      rintro e w9 ⟨rfl, rfl⟩
      go_wp2_with fail
      refine (holds_is (zs := ds) (r := true) rfl rfl hq _ _ _ _ _ (by unfold maxLen; omega) (by unfold maxLen; omega) hM3 hD3).mono ?_
      rintro e w9 ⟨rfl, rfl⟩
      rcases hxyz with ⟨hx, hz⟩ | ⟨hx, hy, hz⟩ | ⟨hx, hy, hz⟩
      · have n1 : (checkI n cs == 0) = false := by simp [hx]
        have n2 : (checkI n (cs ++ ds) == 0) = false := by simp [hz]
        clear hx hz
        go_wp2_with fail
        refine (check_is (zs := cs ++ ds) (r := checkI n (cs ++ ds)) hl3 rfl _ _ _ (by unfold maxLen; omega) hR3).mono ?_
        rintro e w9 ⟨rfl, rfl⟩
        go_wp2_with fail
        refine (check_is (zs := cs) (r := checkI n cs) rfl rfl _ _ _ (by unfold maxLen; omega) hC3).mono ?_
        rintro e w9 ⟨rfl, rfl⟩
        go_wp2_with fail
        refine (known_any _).mono ?_
        rintro e w9 ⟨rfl, hB⟩
        go_wp2
        go_ret
        exact ⟨rfl, B3.out.trans (hB.mono B3.out.size)⟩
      · have n1 : (checkI n ds == 0) = false := by simp [hy]
        have n2 : (checkI n (cs ++ ds) == 0) = false := by simp [hz]
        clear hy hz
        go_wp2_with fail
        refine (check_is (zs := cs ++ ds) (r := checkI n (cs ++ ds)) hl3 rfl _ _ _ (by unfold maxLen; omega) hR3).mono ?_
        rintro e w9 ⟨rfl, rfl⟩
        go_wp2_with fail
        refine (check_is (zs := cs) (r := 0) rfl hx.out _ _ _ (by unfold maxLen; omega) hC3).mono ?_
        rintro e w9 ⟨rfl, rfl⟩
        go_wp2_with fail
        refine (check_is (zs := ds) (r := checkI n ds) rfl rfl _ _ _ (by unfold maxLen; omega) hD3).mono ?_
        rintro e w9 ⟨rfl, rfl⟩
        go_wp2_with fail
        refine (known_any _).mono ?_
        rintro e w9 ⟨rfl, hB⟩
        go_wp2
        go_ret
        exact ⟨rfl, B3.out.trans (hB.mono B3.out.size)⟩
      · go_wp2_with fail
        refine (check_is (zs := cs ++ ds) (r := 0) hl3 hz.out _ _ _ (by unfold maxLen; omega) hR3).mono ?_
        rintro e w9 ⟨rfl, rfl⟩
        go_wp2_with fail
        refine (check_is (zs := cs) (r := 0) rfl hx.out _ _ _ (by unfold maxLen; omega) hC3).mono ?_
        rintro e w9 ⟨rfl, rfl⟩
        go_wp2_with fail
        refine (check_is (zs := ds) (r := 0) rfl hy.out _ _ _ (by unfold maxLen; omega) hD3).mono ?_
        rintro e w9 ⟨rfl, rfl⟩
        go_wp2_with fail
        refine (known_any _).mono ?_
        rintro e w9 ⟨rfl, hB⟩
        go_wp2
        go_ret
        exact ⟨rfl, B3.out.trans (hB.mono B3.out.size)⟩
    · go_wp2_with fail
      refine (holds_is (zs := cs ++ ds) (r := false) rfl hl3 (by simp only [List.any_append, hp, hq]; rfl) _ _ _ _ _ (by unfold maxLen; omega) (by unfold maxLen; omega) hM3 hR3).mono ?_
      rintro e w9 ⟨rfl, rfl⟩
      go_wp2_with fail
      refine (holds_is (zs := cs) (r := false) rfl rfl hp _ _ _ _ _ (by unfold maxLen; omega) (by unfold maxLen; omega) hM3 hC3).mono ?_
      rintro e w9 ⟨rfl, rfl⟩
      go_wp2_with fail
      refine (holds_is (zs := ds) (r := false) rfl rfl hq _ _ _ _ _ (by unfold maxLen; omega) (by unfold maxLen; omega) hM3 hD3).mono ?_
      rintro e w9 ⟨rfl, rfl⟩
      rcases hxyz with ⟨hx, hz⟩ | ⟨hx, hy, hz⟩ | ⟨hx, hy, hz⟩
      · have n1 : (checkI n cs == 0) = false := by simp [hx]
        have n2 : (checkI n (cs ++ ds) == 0) = false := by simp [hz]
        clear hx hz
        go_wp2_with fail
        refine (check_is (zs := cs ++ ds) (r := checkI n (cs ++ ds)) hl3 rfl _ _ _ (by unfold maxLen; omega) hR3).mono ?_
        rintro e w9 ⟨rfl, rfl⟩
        go_wp2_with fail
        refine (check_is (zs := cs) (r := checkI n cs) rfl rfl _ _ _ (by unfold maxLen; omega) hC3).mono ?_
        rintro e w9 ⟨rfl, rfl⟩
        go_wp2_with fail
        refine (known_any _).mono ?_
        rintro e w9 ⟨rfl, hB⟩
        go_wp2
        go_ret
        exact ⟨rfl, B3.out.trans (hB.mono B3.out.size)⟩
      · have n1 : (checkI n ds == 0) = false := by simp [hy]
        have n2 : (checkI n (cs ++ ds) == 0) = false := by simp [hz]
        clear hy hz
        go_wp2_with fail
        refine (check_is (zs := cs ++ ds) (r := checkI n (cs ++ ds)) hl3 rfl _ _ _ (by unfold maxLen; omega) hR3).mono ?_
        rintro e w9 ⟨rfl, rfl⟩
        go_wp2_with fail
        refine (check_is (zs := cs) (r := 0) rfl hx.out _ _ _ (by unfold maxLen; omega) hC3).mono ?_
        rintro e w9 ⟨rfl, rfl⟩
        go_wp2_with fail
        refine (check_is (zs := ds) (r := checkI n ds) rfl rfl _ _ _ (by unfold maxLen; omega) hD3).mono ?_
        rintro e w9 ⟨rfl, rfl⟩
        go_wp2_with fail
        refine (known_any _).mono ?_
        rintro e w9 ⟨rfl, hB⟩
        go_wp2
        go_ret
        exact ⟨rfl, B3.out.trans (hB.mono B3.out.size)⟩
      · go_wp2_with fail
        refine (check_is (zs := cs ++ ds) (r := 0) hl3 hz.out _ _ _ (by unfold maxLen; omega) hR3).mono ?_
        rintro e w9 ⟨rfl, rfl⟩
        go_wp2_with fail
        refine (check_is (zs := cs) (r := 0) rfl hx.out _ _ _ (by unfold maxLen; omega) hC3).mono ?_
        rintro e w9 ⟨rfl, rfl⟩
        go_wp2_with fail
        refine (check_is (zs := ds) (r := 0) rfl hy.out _ _ _ (by unfold maxLen; omega) hD3).mono ?_
        rintro e w9 ⟨rfl, rfl⟩
        go_wp2_with fail
        refine (known_any _).mono ?_
        rintro e w9 ⟨rfl, hB⟩
        go_wp2
        go_ret
        exact ⟨rfl, B3.out.trans (hB.mono B3.out.size)⟩
end Go.Proofs.Ytiddnahipdlgkaa
