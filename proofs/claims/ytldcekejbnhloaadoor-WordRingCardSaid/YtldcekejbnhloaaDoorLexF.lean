/-
  A region that draws its order, by facts: each operation once, whatever has come up beside it. For each operation a fact about what it leaves (a value, a world), which stays as the region goes on.
-/
import Derived.OrdersHeld
import Derived.Lib.Hide
import Derived.Test.YtldcekejbnhloaaDoorProg
import Derived.WalkKit
namespace Go.Proofs.YtldcekejbnhloaaDoor.LexF
open Go.RowKit Go.Lib

section
variable {P : Program} {ops : Array Oper} {Q : Exit → Act → World → Prop} {md : Region.Mode}

/-- How many have not come up. -/
def open_ (n : Nat) (listed : Array Bool) : Nat := ((List.range n).filter fun j => !listed.getD j true).length
theorem open_set {n i : Nat} {listed : Array Bool} (hi : i < n) (h : listed.getD i true = false) : open_ n (listed.setIfInBounds i true) < open_ n listed := by
  unfold open_
  have hsub : ((List.range n).filter fun j => !(listed.setIfInBounds i true).getD j true) = (((List.range n).filter fun j => !listed.getD j true).filter fun j => decide (j ≠ i)) := by
    rw [List.filter_filter]
    refine List.filter_congr fun j _ => ?_
    by_cases hj : j = i
    · subst hj
      have h1 : (listed.setIfInBounds j true).getD j true = true := by
        rcases Nat.lt_or_ge j listed.size with h' | h'
        · simp [h']
        · simp [h']
      simp [h1]
    · rw [getD_set_ne true (fun e => hj e.symm)]
      simp [hj]
  rw [hsub]
  refine List.length_filter_lt_length_iff_exists.2 ⟨i, ?_, by simp⟩
  rw [List.mem_filter]
  exact ⟨List.mem_range.2 hi, by rw [h]; rfl⟩
/-- Any order, by an invariant. -/
theorem any_inv {I : Array Bool → Act → World → Prop} (step : ∀ listed a w i, i ∈ Region.ready md ops listed → I listed a w → wpOp P ops Q i (fun a' w' => I (listed.setIfInBounds i true) a' w') a w)
    (fin : ∀ listed a w, Region.ready md ops listed = [] → I listed a w → Q .normal a w) :
    ∀ (f : Nat) (listed : Array Bool) (a : Act) (w : World), open_ ops.size listed ≤ f → I listed a w → wpAny P md ops Q f listed a w
  | 0, listed, a, w, hf, hI => by
    have h0 : Region.ready md ops listed = [] := by
      refine List.eq_nil_iff_forall_not_mem.2 fun i hi => ?_
      obtain ⟨h1, o, ho, _⟩ := mem_ready.1 hi
      have hlt : i < ops.size := by
        rcases Nat.lt_or_ge i ops.size with h | h
        · exact h
        · rw [Array.getElem?_eq_none h] at ho; simp at ho
      have := open_set hlt h1
      omega
    exact ⟨h0, fin listed a w h0 hI⟩
  | f + 1, listed, a, w, hf, hI => by
    refine ⟨fun h0 => fin listed a w h0 hI, fun i hi => ?_⟩
    obtain ⟨h1, o, ho, _⟩ := mem_ready.1 hi
    have hlt : i < ops.size := by
      rcases Nat.lt_or_ge i ops.size with h | h
      · exact h
      · rw [Array.getElem?_eq_none h] at ho; simp at ho
    have hs := open_set hlt h1
    exact wpOp_mono (fun a' w' k => any_inv step fin f _ a' w' (by omega) k) (step listed a w i hi hI)

/-- What an operation does, for one who knows what it leaves: a value, or a call that returns one. -/
def Does (P : Program) (ev : Operand → Value) (o : Oper) (w : World) (K : Value → World → Prop) : Prop :=
  (∃ v w', (execOp ev o).run P w = .ok (.value v) w' ∧ K v w') ∨
  (∃ f args w', (execOp ev o).run P w = .ok (.enter f args) w' ∧ Calls P f args w' fun e w'' => ∃ v, e = .returned v ∧ K v w'')

/-- Every operation without a guard, each with a place of its own in the frame. -/
def okF (l : List Oper) (n : Nat) : Bool := l.all (fun o => o.guard.isNone && (match o.dst with | some d => decide (d < n) | none => true)) && decide (l.filterMap (·.dst)).Nodup && (List.range l.length).all fun i => match l[i]? with | some o => o.after.all fun e => !Region.binds .any e || decide (e.on < i) | none => true
def dests (l : List Oper) : List Nat := l.filterMap (·.dst)

theorem dests_inj : ∀ {l : List Oper} {i j : Nat} {o q : Oper} {d : Nat}, (l.filterMap (·.dst)).Nodup → l[j]? = some q → l[i]? = some o → q.dst = some d → o.dst = some d → j = i
  | [], i, j, o, q, d, _, hq, _, _, _ => by simp at hq
  | x :: l, i, j, o, q, d, hn, hq, ho, hd, he => by
    have inl : ∀ k (u : Oper), l[k]? = some u → u.dst = some d → d ∈ l.filterMap (·.dst) := fun k u hu hud => List.mem_filterMap.2 ⟨u, List.mem_of_getElem? hu, hud⟩
    have hn2 : (l.filterMap (·.dst)).Nodup := by
      rw [List.filterMap_cons] at hn
      cases hx : x.dst with
      | none => rw [hx] at hn; exact hn
      | some y => rw [hx] at hn; exact (List.nodup_cons.1 hn).2
    have hout : x.dst = some d → d ∉ l.filterMap (·.dst) := fun hx => by
      rw [List.filterMap_cons, hx] at hn
      exact (List.nodup_cons.1 hn).1
    cases i with
    | zero =>
      cases j with
      | zero => rfl
      | succ j =>
        rw [List.getElem?_cons_zero] at ho
        rw [List.getElem?_cons_succ] at hq
        obtain rfl : x = o := Option.some.inj ho
        exact absurd (inl j q hq hd) (hout he)
    | succ i =>
      cases j with
      | zero =>
        rw [List.getElem?_cons_zero] at hq
        rw [List.getElem?_cons_succ] at ho
        obtain rfl : x = q := Option.some.inj hq
        exact absurd (inl i o ho he) (hout hd)
      | succ j =>
        rw [List.getElem?_cons_succ] at ho hq
        rw [dests_inj hn2 hq ho hd he]

theorem all_listed {l : List Oper} {listed : Array Bool} (hsz : listed.size = l.length) (hB : ((List.range l.length).all fun i => match l[i]? with | some o => o.after.all fun e => !Region.binds .any e || decide (e.on < i) | none => true) = true)
    (h0 : Region.ready .any l.toArray listed = []) : ∀ j o, l[j]? = some o → listed.getD j false = true := by
  intro j
  induction j using Nat.strongRecOn with
  | _ j ih =>
    intro o ho
    have hlt : j < l.length := by
      rcases Nat.lt_or_ge j l.length with h | h
      · exact h
      · rw [List.getElem?_eq_none h] at ho; simp at ho
    cases hj : listed.getD j false with
    | true => rfl
    | false =>
      exfalso
      have hj2 : listed.getD j true = false := by
        simp only [Array.getD_eq_getD_getElem?, Array.getElem?_eq_getElem (show j < listed.size by omega)] at hj ⊢
        exact hj
      have hB2 := List.all_eq_true.1 hB j (List.mem_range.2 hlt)
      rw [ho] at hB2
      have hr : j ∈ Region.ready .any l.toArray listed := mem_ready.2 ⟨hj2, o, by rw [List.getElem?_toArray]; exact ho, fun e he hb => by
        have h1 := Array.all_eq_true'.1 hB2 e he
        rw [hb] at h1
        have h2 : e.on < j := by simpa using h1
        have h3 : e.on < l.length := by omega
        exact ih e.on h2 l[e.on] (List.getElem?_eq_getElem h3)⟩
      rw [h0] at hr
      simp at hr

theorem put_same {a : Act} {d : Option Tmp} {v : Value} {k : Nat} (h : d ≠ some k) : (a.put d v).tmps.getD k undef = a.tmps.getD k undef := by
  cases d with
  | none => rfl
  | some e =>
    have h1 : e ≠ k := fun q => h (by rw [q])
    show (a.tmps.setIfInBounds e v).getD k undef = _
    simp only [Array.getD_eq_getD_getElem?, Array.getElem?_setIfInBounds_ne h1]
theorem put_at {a : Act} {d : Nat} {v : Value} (h : d < a.tmps.size) : (a.put (some d) v).tmps.getD d undef = v := by
  show (a.tmps.setIfInBounds d v).getD d undef = _
  simp [Array.getD_eq_getD_getElem?, h]
theorem put_size {a : Act} {d : Option Tmp} {v : Value} : (a.put d v).tmps.size = a.tmps.size := by
  cases d <;> simp [Act.put]
theorem put_defers {a : Act} {d : Option Tmp} {v : Value} : (a.put d v).defers = a.defers := by
  cases d <;> rfl

/-- What is known while the region goes on. -/
def Known (l : List Oper) (a0 : Act) (F : Nat → Value → World → Prop) (S : World → Prop) (listed : Array Bool) (a : Act) (w : World) : Prop :=
  a.tmps.size = a0.tmps.size ∧ a.defers = a0.defers ∧ (∀ k, k ∉ dests l → a.tmps.getD k undef = a0.tmps.getD k undef) ∧
  (∀ j o, listed.getD j false = true → l[j]? = some o → ∃ v, (∀ d, o.dst = some d → a.tmps.getD d undef = v) ∧ F j v w) ∧ S w

theorem wp_region_facts {id : Nat} {a0 : Act} {w : World} {l : List Oper} (F : Nat → Value → World → Prop) (S : World → Prop) (R : World → World → Prop) (hm : P.follows .mixedOrders = true)
    (hB : okF l a0.tmps.size = true) (hS : S w.drew) (hR : ∀ j v w w', R w w' → F j v w → F j v w')
    (hop : ∀ i o, l[i]? = some o → ∀ (ev : Operand → Value) (W : World), S W → (∀ v, ev (.const v) = v) → (∀ g, ev (.global g) = .pointer (some ⟨g, 0, none⟩)) → (∀ f, ev (.func f) = .func (.func f) #[] #[]) →
      (∀ k, k ∉ dests l → ev (.tmp k) = a0.tmps.getD k undef) →
      (∀ j q, (∃ e ∈ o.after, Region.binds .any e = true ∧ e.on = j) → l[j]? = some q → ∃ v, (∀ d, q.dst = some d → ev (.tmp d) = v) ∧ F j v W) →
      Does P ev o W fun v W' => F i v W' ∧ S W' ∧ R W W')
    (hend : ∀ (t : Nat → Value) (W : World), S W → (∀ j o, l[j]? = some o → ∃ v, (∀ d, o.dst = some d → t d = v) ∧ F j v W) →
      Q .normal ⟨((List.range a0.tmps.size).map fun k => if k ∈ dests l then t k else a0.tmps.getD k undef).toArray, a0.defers⟩ W) :
    (Code.region id l.toArray true).wp P Q a0 w := by
  unfold okF at hB
  rw [Bool.and_eq_true, Bool.and_eq_true, List.all_eq_true, decide_eq_true_eq] at hB
  obtain ⟨⟨hg, hnd⟩, hac⟩ := hB
  have hof : ∀ i (o : Oper), l.toArray[i]? = some o → l[i]? = some o := fun i o h => by rw [List.getElem?_toArray] at h; exact h
  refine wp_region_any hm (any_inv (I := fun listed a w => listed.size = l.length ∧ Known l a0 F S listed a w) ?_ ?_ _ _ _ _ ?_ ?_)
  · rintro listed a W i hi ⟨hsz, k1, k2, k3, k4, k5⟩
    obtain ⟨hun, o, ho, hall⟩ := mem_ready.1 hi
    have hlo := hof i o ho
    have hmem : o ∈ l := List.mem_of_getElem? hlo
    have hgo := hg o hmem
    rw [Bool.and_eq_true] at hgo
    have hev : a.eval = a.eval := rfl
    have hd := hop i o hlo a.eval W k5 (fun _ => rfl) (fun _ => rfl) (fun _ => rfl) (fun k hk => k3 k hk) (fun j q hj hq => by
      obtain ⟨e, he, hb, rfl⟩ := hj
      exact k4 _ q (hall e he hb) hq)
    have hnext : ∀ v W', F i v W' → S W' → R W W' → (listed.setIfInBounds i true).size = l.length ∧ Known l a0 F S (listed.setIfInBounds i true) (a.put o.dst v) W' := fun v W' hF hS' hR' => by
      refine ⟨by simp [hsz], by rw [put_size, k1], by rw [put_defers, k2], fun k hk => ?_, fun j q hj hq => ?_, hS'⟩
      · rw [put_same (fun e => hk (by unfold dests; exact List.mem_filterMap.2 ⟨o, hmem, e⟩)), k3 k hk]
      · by_cases hji : j = i
        · subst hji
          obtain rfl : o = q := by rw [hlo] at hq; exact Option.some.inj hq
          refine ⟨v, fun d hd => ?_, hF⟩
          rw [hd]
          have h2 := hgo.2
          rw [hd] at h2
          exact put_at (by rw [k1]; simpa using h2)
        · rw [getD_set_ne false (fun e => hji e.symm)] at hj
          obtain ⟨u, h1, h2⟩ := k4 j q hj hq
          refine ⟨u, fun d hd => ?_, hR _ _ _ _ hR' h2⟩
          rw [put_same ?_, h1 d hd]
          intro e
          -- two operations with the same place
          exact hji (dests_inj hnd hq hlo hd e)
    unfold wpOp
    simp only [ho]
    rw [if_pos (by unfold Region.wanted; have := hgo.1; cases hq : o.guard <;> simp_all)]
    left
    unfold Oper.wp
    rcases hd with ⟨v, W', h1, h2, h3, h4⟩ | ⟨f, args, W', h1, h2⟩
    · rw [h1]
      exact hnext v W' h2 h3 h4
    · rw [h1]
      refine Calls.mono h2 ?_
      rintro e W'' ⟨v, rfl, h3, h4, h5⟩
      exact hnext v W'' h3 h4 h5
  · rintro listed a W h0 ⟨hsz, k1, k2, k3, k4, k5⟩
    have hall := all_listed hsz hac h0
    have he := hend (fun k => a.tmps.getD k undef) W k5 (fun j o ho => k4 j o (hall j o ho) ho)
    have ha : a = ⟨((List.range a0.tmps.size).map fun k => if k ∈ dests l then a.tmps.getD k undef else a0.tmps.getD k undef).toArray, a0.defers⟩ := by
      have h1 : a.tmps = ((List.range a0.tmps.size).map fun k => if k ∈ dests l then a.tmps.getD k undef else a0.tmps.getD k undef).toArray := by
        refine Array.ext (by simp [k1]) fun i hi _ => ?_
        have hh : a.tmps[i] = a.tmps.getD i undef := by simp [Array.getD_eq_getD_getElem?, hi]
        rw [hh]
        simp only [List.getElem_toArray, List.getElem_map, List.getElem_range]
        split
        · rfl
        · rename_i hn; exact hh.trans (k3 i hn)
      cases a
      simp only at h1 k2
      rw [Act.mk.injEq]
      exact ⟨h1, k2⟩
    rw [ha]
    exact he
  · unfold open_
    exact Nat.le_trans (List.length_filter_le _ _) (by simp)
  · refine ⟨by simp, rfl, rfl, fun _ _ => rfl, fun j o hj _ => ?_, hS⟩
    exfalso
    rcases Nat.lt_or_ge j l.toArray.size with h | h
    · simp only [Array.getD_eq_getD_getElem?, Array.getElem?_replicate] at hj
      rw [if_pos h] at hj
      simp at hj
    · simp only [Array.getD_eq_getD_getElem?, Array.getElem?_replicate] at hj
      rw [if_neg (by omega)] at hj
      simp at hj

/-- What an operation does, told to one who waits for it. -/
def DoesR (P : Program) (K : Value → World → Prop) : Result Next → Prop
  | .ok (.value v) w' => K v w'
  | .ok (.enter f args) w' => Calls P f args w' fun e w'' => ∃ v, e = .returned v ∧ K v w''
  | _ => False
theorem Does.of {ev : Operand → Value} {o : Oper} {w : World} {K : Value → World → Prop} (h : DoesR P K ((execOp ev o).run P w)) : Does P ev o w K := by
  unfold Does
  revert h
  generalize (execOp ev o).run P w = r
  intro h
  unfold DoesR at h
  split at h
  · rename_i v w'; exact .inl ⟨v, w', rfl, h⟩
  · rename_i f args w'; exact .inr ⟨f, args, w', rfl, h⟩
  · exact h.elim
/-- Operation o waits for number j, which leaves its value in d. -/
def look (l : List Oper) (o : Oper) (j d : Nat) : Bool := o.after.any (fun e => Region.binds .any e && e.on == j) && (match l[j]? with | some q => q.dst == some d | none => false)
def leaves (l : List Oper) (j d : Nat) : Bool := match l[j]? with | some q => q.dst == some d | none => false
def Each : List Oper → Nat → (Nat → Oper → Prop) → Prop
  | [], _, _ => True
  | o :: l, k, p => p k o ∧ Each l (k + 1) p
theorem Each.get {p : Nat → Oper → Prop} : ∀ {l : List Oper} {k : Nat}, Each l k p → ∀ i o, l[i]? = some o → p (k + i) o
  | [], _, _, i, o, h => by simp at h
  | x :: l, k, hE, i, o, h => by
    cases i with
    | zero => rw [List.getElem?_cons_zero] at h; obtain rfl : x = o := Option.some.inj h; exact hE.1
    | succ i =>
      rw [List.getElem?_cons_succ] at h
      have := Each.get hE.2 i o h
      rw [show k + (i + 1) = k + 1 + i by omega]
      exact this
theorem Each.cons {p : Nat → Oper → Prop} {o : Oper} {l : List Oper} {k k' : Nat} (hk : k + 1 = k') (h : p k o) (h2 : Each l k' p) : Each (o :: l) k p := ⟨h, by rw [hk]; exact h2⟩
theorem Each.nil {p : Nat → Oper → Prop} {k : Nat} : Each [] k p := trivial

theorem wp_region_each {id : Nat} {a0 : Act} {w : World} {l : List Oper} (F : Nat → Value → World → Prop) (S : World → Prop) (R : World → World → Prop) (n : Nat) (D : List Nat) (hm : P.follows .mixedOrders = true)
    (hn : a0.tmps.size = n) (hB : okF l n = true) (hD : dests l = D) (hS : S w.drew) (hR : ∀ j v w w', R w w' → F j v w → F j v w')
    (hop : Each l 0 fun i o => ∀ (ev : Operand → Value) (W : World), Hid (S W) → (∀ v, ev (.const v) = v) → (∀ f, ev (.func f) = .func (.func f) #[] #[]) → Hid (∀ k, k ∉ D → ev (.tmp k) = a0.tmps.getD k undef) →
      Hid (∀ j d, look l o j d = true → F j (ev (.tmp d)) W) → ∀ K, Hid (∀ v W', F i v W' → S W' → R W W' → K v W') → DoesR P K ((execOp ev o).run P W))
    (hend : ∀ (t : Nat → Value) (W : World), S W → Hid (∀ j d, leaves l j d = true → F j (t d) W) → Q .normal ⟨((List.range n).map fun k => if k ∈ D then t k else a0.tmps.getD k undef).toArray, a0.defers⟩ W) :
    (Code.region id l.toArray true).wp P Q a0 w := by
  subst hn
  subst hD
  refine wp_region_facts F S R hm hB hS hR (fun i o ho ev W hS hc _ hf hk hd => Does.of ?_) (fun t W hS hd => hend t W hS ?_)
  · have h := hop.get i o ho
    rw [Nat.zero_add] at h
    refine h ev W hS hc hf hk (fun j d hl => ?_) _ (fun v W' h1 h2 h3 => ⟨h1, h2, h3⟩)
    unfold look at hl
    rw [Bool.and_eq_true, Array.any_eq_true'] at hl
    obtain ⟨⟨e, he, h1⟩, h2⟩ := hl
    rw [Bool.and_eq_true, beq_iff_eq] at h1
    cases hq : l[j]? with
    | none => rw [hq] at h2; simp at h2
    | some q =>
      rw [hq] at h2
      obtain ⟨v, h3, h4⟩ := hd j q ⟨e, he, h1.1, h1.2⟩ hq
      rw [h3 d (by simpa using h2)]
      exact h4
  · intro j d hl
    unfold leaves at hl
    cases hq : l[j]? with
    | none => rw [hq] at hl; simp at hl
    | some q =>
      rw [hq] at hl
      obtain ⟨v, h3, h4⟩ := hd j q hq
      rw [h3 d (by simpa using hl)]
      exact h4
end
end Go.Proofs.YtldcekejbnhloaaDoor.LexF
