/-
  The reference's unit propagation, plain; a map of bools as a list of its keys.
-/
import Derived.Test.YtbljkbdbiceokaaPropV
import Derived.Maps.OwnSet
namespace Go.Proofs.Ytbljkbdbiceokaa
open Go.RowKit Go.Lib
open Go.RowKit (Below)

/-! Plain. -/
def unitR (ks : List Int) : Int → List Int → Int × Bool
  | last, [] => (last, last != 0)
  | last, x :: c => if -x ∈ ks ∨ x = last then unitR ks last c else if x ∈ ks ∨ last ≠ 0 then (0, true) else unitR ks x c
theorem unitR_spec (ks : List Int) : ∀ (c : List Int) (last : Int), (∀ y ∈ c, y ≠ 0) →
    ((unitR ks last c).2 = false → last = 0 ∧ ∀ y ∈ c, -y ∈ ks) ∧
    ((unitR ks last c).2 = true → (unitR ks last c).1 ≠ 0 → ((unitR ks last c).1 = last ∨ (last = 0 ∧ (unitR ks last c).1 ∈ c ∧ -(unitR ks last c).1 ∉ ks)) ∧ ∀ y ∈ c, y ≠ (unitR ks last c).1 → -y ∈ ks) ∧
    ((unitR ks last c).2 = true → (unitR ks last c).1 = 0 → ∃ y ∈ c, -y ∉ ks ∧ y ≠ last ∧ (y ∈ ks ∨ last ≠ 0 ∨ ∃ y' ∈ c, y' ≠ y ∧ -y' ∉ ks))
  | [], last, _ => by
    unfold unitR
    refine ⟨fun h => ⟨by simpa using h, by simp⟩, fun _ _ => ⟨.inl rfl, by simp⟩, fun h1 h2 => ?_⟩
    simp at h1 h2; exact absurd h2 h1
  | x :: c, last, h0 => by
    have h0c : ∀ y ∈ c, y ≠ 0 := fun y hy => h0 y (List.mem_cons_of_mem _ hy)
    have hx0 : x ≠ 0 := h0 x (by simp)
    unfold unitR
    by_cases h1 : -x ∈ ks ∨ x = last
    · rw [if_pos h1]
      obtain ⟨i1, i2, i3⟩ := unitR_spec ks c last h0c
      refine ⟨fun h => ?_, fun h hn => ?_, fun h hn => ?_⟩
      · obtain ⟨a1, a2⟩ := i1 h
        refine ⟨a1, fun y hy => ?_⟩
        rcases List.mem_cons.1 hy with rfl | hy
        · rcases h1 with h1 | h1
          · exact h1
          · exact absurd (h1.trans a1) hx0
        · exact a2 y hy
      · obtain ⟨a1, a2⟩ := i2 h hn
        refine ⟨a1.imp id fun ⟨b1, b2, b3⟩ => ⟨b1, List.mem_cons_of_mem _ b2, b3⟩, fun y hy hne => ?_⟩
        rcases List.mem_cons.1 hy with rfl | hy
        · rcases h1 with h1 | h1
          · exact h1
          · rcases a1 with a1 | ⟨b1, _, _⟩
            · exact absurd (h1.trans a1.symm) hne
            · exact absurd (h1.trans b1) hx0
        · exact a2 y hy hne
      · obtain ⟨y, a1, a2, a3, a4⟩ := i3 h hn
        exact ⟨y, List.mem_cons_of_mem _ a1, a2, a3, a4.imp id (Or.imp id fun ⟨y', b1, b2, b3⟩ => ⟨y', List.mem_cons_of_mem _ b1, b2, b3⟩)⟩
    · rw [if_neg h1]
      have hxn : -x ∉ ks := fun h => h1 (.inl h)
      have hxl : x ≠ last := fun h => h1 (.inr h)
      by_cases h2 : x ∈ ks ∨ last ≠ 0
      · rw [if_pos h2]
        refine ⟨fun h => (by cases h), fun _ hn => absurd rfl hn, fun _ _ => ⟨x, by simp, hxn, hxl, h2.imp id .inl⟩⟩
      · rw [if_neg h2]
        have hl0 : last = 0 := Decidable.byContradiction fun h => h2 (.inr h)
        obtain ⟨i1, i2, i3⟩ := unitR_spec ks c x h0c
        refine ⟨fun h => absurd (i1 h).1 hx0, fun h hn => ?_, fun h hn => ?_⟩
        · obtain ⟨a1, a2⟩ := i2 h hn
          rcases a1 with a1 | ⟨b1, _, _⟩
          · refine ⟨.inr ⟨hl0, by rw [a1]; simp, by rw [a1]; exact hxn⟩, fun y hy hne => ?_⟩
            rcases List.mem_cons.1 hy with rfl | hy
            · exact absurd a1.symm hne
            · exact a2 y hy hne
          · exact absurd b1 hx0
        · obtain ⟨y, a1, a2, a3, a4⟩ := i3 h hn
          exact ⟨y, List.mem_cons_of_mem _ a1, a2, (by rw [hl0]; exact h0c y a1), .inr (.inr ⟨x, by simp, fun e => a3 e.symm, hxn⟩)⟩

def insK (ks : List Int) (x : Int) : List Int := if x ∈ ks then ks else ks ++ [x]
theorem mem_insK {ks : List Int} {x y : Int} : y ∈ insK ks x ↔ y ∈ ks ∨ y = x := by
  unfold insK
  split
  · rename_i h; exact ⟨.inl, fun h' => h'.elim id fun e => by rw [e]; exact h⟩
  · rw [List.mem_append, List.mem_singleton]
/-- What is known at some time of the reference's run. -/
structure KInv (V : Nat) (F : List (List Int)) (A ks : List Int) : Prop where
  der : ∀ x ∈ ks, Der F A x
  one : ∀ x ∈ ks, -x ∉ ks
  nodup : ks.Nodup
  range : ∀ x ∈ ks, -(V : Int) ≤ x ∧ x ≤ V ∧ x ≠ 0
theorem KInv.nil (V : Nat) (F : List (List Int)) (A : List Int) : KInv V F A [] := ⟨by simp, by simp, List.nodup_nil, by simp⟩
theorem KInv.ins {V : Nat} {F : List (List Int)} {A ks : List Int} (h : KInv V F A ks) {x : Int} (hd : Der F A x) (hn : -x ∉ ks) (hr : -(V : Int) ≤ x ∧ x ≤ V ∧ x ≠ 0) : KInv V F A (insK ks x) := by
  refine ⟨fun y hy => ?_, fun y hy hny => ?_, ?_, fun y hy => ?_⟩
  · rcases mem_insK.1 hy with hy | rfl
    · exact h.der y hy
    · exact hd
  · rcases mem_insK.1 hy with hy | rfl
    · rcases mem_insK.1 hny with hny | e
      · exact h.one y hy hny
      · exact hn (by rw [← e]; simpa using hy)
    · rcases mem_insK.1 hny with hny | e
      · exact hn hny
      · omega
  · unfold insK
    split
    · exact h.nodup
    · rename_i hx
      rw [List.nodup_append]
      exact ⟨h.nodup, by simp, fun a ha b hb e => by rw [List.mem_singleton] at hb; rw [e, hb] at ha; exact hx ha⟩
  · rcases mem_insK.1 hy with hy | rfl
    · exact h.range y hy
    · exact hr
theorem KInv.len {V : Nat} {F : List (List Int)} {A ks : List Int} (h : KInv V F A ks) : ks.length ≤ 2 * V := by
  have h1 : ks ⊆ ((List.range V).map fun (i : Nat) => (i : Int) + 1) ++ ((List.range V).map fun (i : Nat) => -((i : Int) + 1)) := fun x hx => by
    obtain ⟨a, b, c⟩ := h.range x hx
    rw [List.mem_append, List.mem_map, List.mem_map]
    by_cases hp : 0 < x
    · exact .inl ⟨x.toNat - 1, by rw [List.mem_range]; omega, by omega⟩
    · exact .inr ⟨(-x).toNat - 1, by rw [List.mem_range]; omega, by omega⟩
  have h2 := h.nodup.length_le_of_subset h1
  simp at h2; omega
def DoneK (ks z : List Int) : Prop := z ≠ [] ∧ ∀ x ∈ z, (∀ y ∈ z, y ≠ x → -y ∈ ks) → x ∈ ks
theorem KInv.done {V : Nat} {F : List (List Int)} {A ks : List Int} (h : KInv V F A ks) (hA : ∀ x ∈ A, x ∈ ks) (hF : ∀ z ∈ F, DoneK ks z) : (∀ x, x ∈ ks ↔ Der F A x) ∧ ¬ Fails F A := by
  have hc : ∀ x, Der F A x → x ∈ ks := fun x hx => closed_der hA (fun c hc x hx hy => (hF c hc).2 x hx hy) hx
  refine ⟨fun x => ⟨h.der x, hc x⟩, ?_⟩
  rintro (h1 | ⟨x, h1, h2⟩)
  · exact (hF _ h1).1 rfl
  · exact h.one x (hc _ h1) (hc _ h2)
/-- What a look at a clause says. -/
theorem unit_false {F : List (List Int)} {A ks z : List Int} (hk : ∀ x ∈ ks, Der F A x) (hz : z ∈ F) (h0 : ∀ y ∈ z, y ≠ 0) (h : (unitR ks 0 z).2 = false) : Fails F A := by
  have h1 := ((unitR_spec ks z 0 h0).1 h).2
  cases z with
  | nil => exact .inl hz
  | cons x c => exact .inr ⟨x, .unit hz (by simp) fun y hy _ => hk _ (h1 y hy), hk _ (h1 x (by simp))⟩
theorem unit_zero {ks z : List Int} (h0 : ∀ y ∈ z, y ≠ 0) (h : (unitR ks 0 z).2 = true) (hn : (unitR ks 0 z).1 = 0) : DoneK ks z := by
  obtain ⟨y, a1, a2, _, a4⟩ := (unitR_spec ks z 0 h0).2.2 h hn
  refine ⟨fun e => by rw [e] at a1; simp at a1, fun x hx ho => ?_⟩
  have hyx : y = x := Decidable.byContradiction fun e => a2 (ho y a1 e)
  rcases a4 with a4 | a4 | ⟨y', b1, b2, b3⟩
  · rw [← hyx]; exact a4
  · exact absurd rfl a4
  · exact absurd (ho y' b1 fun e => b2 (e.trans hyx.symm)) b3
theorem unit_one {F : List (List Int)} {A ks z : List Int} (hk : ∀ x ∈ ks, Der F A x) (hz : z ∈ F) (h0 : ∀ y ∈ z, y ≠ 0) {l : Int} (hl : (unitR ks 0 z).1 = l) (h : (unitR ks 0 z).2 = true) (hn : l ≠ 0) : l ∈ z ∧ -l ∉ ks ∧ Der F A l ∧ (l ∈ ks → DoneK ks z) := by
  subst hl
  obtain ⟨a1, a2⟩ := (unitR_spec ks z 0 h0).2.1 h hn
  rcases a1 with a1 | ⟨_, b2, b3⟩
  · exact absurd a1 hn
  · refine ⟨b2, b3, .unit hz b2 fun y hy hne => hk _ (a2 y hy hne), fun hl => ⟨fun e => by rw [e] at b2; simp at b2, fun x hx ho => ?_⟩⟩
    have : (unitR ks 0 z).1 = x := Decidable.byContradiction fun e => b3 (ho _ b2 e)
    rw [← this]; exact hl

/-! A map of bools. -/
def KMap (w : World) (b : Nat) (ks : List Int) : Prop := ∃ D, w.ownsMap Try.prog 3 anyElem b ks.length D ∧ (∀ x, Rng x → D.atKey (.int .i64 x) (.held (.bool false)) = .held (.bool (decide (x ∈ ks)))) ∧ (∀ x, Rng x → Maps.has D (.int .i64 x) = decide (x ∈ ks)) ∧ Maps.size D = ks.length
theorem KMap.of {w w' : World} {b : Nat} {ks : List Int} (h : KMap w b ks) (hb : w'.heap[b]? = w.heap[b]?) : KMap w' b ks := by
  obtain ⟨D, ⟨es, clock, h1, h2⟩, h3⟩ := h
  exact ⟨D, ⟨es, clock, hb.trans h1, h2⟩, h3⟩
theorem KMap.lt {w : World} {b : Nat} {ks : List Int} (h : KMap w b ks) : b < w.heap.size := let ⟨_, h1, _⟩ := h; h1.lt
theorem KMap.new (w : World) : KMap (w.alloc (.map #[] 0)) w.heap.size [] :=
  ⟨_, World.ownsMap_made w _ _ _, fun x _ => by simp [DataW.atKey], fun x _ => by simp [Maps.has], rfl⟩
theorem zeroBo (w : World) : (zeroValue 4).run Try.prog w = .ok (.bool false) w := by
  obtain ⟨i, hi, hz, _, _⟩ := info_parts Try.info4
  simp [zeroValue, typeInfo, hi, hz]
theorem KMap.look {w : World} {b : Nat} {ks : List Int} (h : KMap w b ks) {x : Int} (hx : Rng x) : (Instr.lookup 86 (.map (some b)) (.int .i64 x) false).run Try.prog w = .ok (.bool (decide (x ∈ ks))) w := by
  obtain ⟨D, h1, h2, _⟩ := h
  obtain ⟨v, ps, hr, hv⟩ := h1.lookup (Maps.int_keyed Try.underlying3) Try.underlying86 (zeroBo w) (zd := .held (.bool false)) (zp := []) rfl (Maps.keyOf_int_mk Try.underlying3 hx.wf)
  rw [h2 x hx] at hv
  simp only [anyElem, Option.some.injEq, Prod.mk.injEq, DataW.held.injEq] at hv
  rw [hr, hv.1]
theorem ownsMap_tight {w : World} {b n : Nat} {D : DataW Value} (h : w.ownsMap Try.prog 3 anyElem b n D) : w.ownsMap Try.prog 3 anyElem b (Maps.size D) D := by
  obtain ⟨es, clock, hb, F, hs, rfl⟩ := h
  exact ⟨es, clock, hb, F, by simp [Maps.size, Go.length_sorted], rfl⟩
theorem KMap.put {w : World} {b : Nat} {ks : List Int} (h : KMap w b ks) (hN : ks.length < maxLen) {x : Int} (hx : Rng x) :
    ∃ w', (Instr.mapUpdate 86 (.map (some b)) (.int .i64 x) (.bool true)).run Try.prog w = .ok () w' ∧ KMap w' b (insK ks x) ∧ w.grownBy w' (some b) := by
  obtain ⟨D, h1, h2, h3, h4⟩ := h
  obtain ⟨w', hr, h5, h6⟩ := h1.update (Maps.int_keyed Try.underlying3) Try.underlying86 hN (Maps.keyOf_int_mk Try.underlying3 hx.wf) (val := .bool true) (d := .held (.bool true)) (ps := []) rfl
  have hD : Maps.IsMap D := h1.isMap
  have hT : Maps.Tidy D := h1.tidy (Maps.int_keyed Try.underlying3)
  have hsz : Maps.size (D.put (.int .i64 x) (.held (.bool true))) = (insK ks x).length := by
    rw [Maps.size_put hT, h3 x hx, h4]
    unfold insK
    by_cases hm : x ∈ ks
    · simp [hm]
    · simp [hm]
  refine ⟨w', hr, ⟨_, by rw [← hsz]; exact ownsMap_tight h5, fun y hy => ?_, fun y hy => ?_, hsz⟩, h6⟩
  · by_cases hyx : y = x
    · subst hyx
      rw [Maps.atKey_put_same hD (by simp [WideAt.IsKeyLit]), decide_eq_true (mem_insK.2 (.inr rfl))]
    · rw [Maps.atKey_put_other (by simpa using hyx), h2 y hy]
      have : (y ∈ insK ks x) ↔ y ∈ ks := by rw [mem_insK]; exact ⟨fun h => h.elim id fun e => absurd e hyx, .inl⟩
      rw [decide_eq_decide.2 this]
  · by_cases hyx : y = x
    · subst hyx
      rw [Maps.has_put_same hD (by simp [WideAt.IsKeyLit]), decide_eq_true (mem_insK.2 (.inr rfl))]
    · rw [Maps.has_put_other (by simpa using hyx), h3 y hy]
      have : (y ∈ insK ks x) ↔ y ∈ ks := by rw [mem_insK]; exact ⟨fun h => h.elim id fun e => absurd e hyx, .inl⟩
      rw [decide_eq_decide.2 this]
theorem KMap.len {w : World} {b : Nat} {ks : List Int} (h : KMap w b ks) (ty : TypeId) : (Builtin.len_ #[86] ty #[.map (some b)]).run Try.prog w = .ok (.int .i64 (ks.length : Int)) w := by
  obtain ⟨D, h1, _, _, h4⟩ := h
  rw [h1.len Try.underlying86, h4]
end Go.Proofs.Ytbljkbdbiceokaa
