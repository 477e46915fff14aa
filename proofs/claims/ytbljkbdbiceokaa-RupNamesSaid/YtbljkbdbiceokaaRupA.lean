/-
  A base of clauses that lasts, plain: two watched literals, what became known taken back; its steps.
-/
import Derived.Test.YtbljkbdbiceokaaPropB
namespace Go.Proofs.Ytbljkbdbiceokaa

theorem getElem?_setB {α : Type} (l : List α) (i j : Nat) (v e : α) (h : (l.set i v)[j]? = some e) : (j = i ∧ e = v) ∨ (j ≠ i ∧ l[j]? = some e) := by
  by_cases hj : i = j
  · subst hj
    rw [List.getElem?_set] at h
    simp only [if_pos] at h
    split at h
    · exact .inl ⟨rfl, (Option.some.inj h).symm⟩
    · cases h
  · rw [List.getElem?_set_ne hj] at h; exact .inr ⟨Ne.symm hj, h⟩
/-- A clause that is watched. -/
structure Cb where
  a : Int
  b : Int
  lits : List Int
  next : Nat
deriving Inhabited
/-- What is known at some time. -/
structure Sb where
  known : List Int
  trail : List Int
  looked : Nat
  watch : Int → List Int
  cls : List Cb

def Sb.kn (S : Sb) (x : Int) : Prop := x ≠ 0 ∧ kat S.known x = x
def Sb.done (S : Sb) (x : Int) : Prop := x ∈ S.trail.take S.looked
def learnB (S : Sb) (x : Int) : Sb × Bool :=
  if kat S.known x = 0 then ({ S with known := S.known.set x.natAbs x, trail := S.trail ++ [x] }, true) else (S, decide (kat S.known x = x))
def otherB (e : Cb) (x : Int) : Int := if e.a = x then e.b else e.a

/-- A clause that watches l (and o beside it) has been looked at, or will be, when l becomes false. -/
def Sb.wt (S : Sb) (cur : Int) (todo : List Int) (i : Nat) (l o : Int) : Prop := S.kn o ∨ if -l = cur then (i : Int) ∈ todo else ¬ S.done (-l)

/-- An entry that stands for a clause of G. -/
structure OkB (G : List (List Int)) (e : Cb) : Prop where
  mem : e.lits ∈ G
  ne : e.a ≠ e.b
  ha : e.a ∈ e.lits
  hb : e.b ∈ e.lits
  nx : e.next < e.lits.length

/-- G: the clauses; A: what is assumed; n: how many variables; R: what was known before; cur: what is being looked at (0: nothing), and which clauses are still to be looked at for it. -/
structure Jnv (G : List (List Int)) (A : List Int) (n : Nat) (R : List Int) (S : Sb) (cur : Int) (todo : List Int) : Prop where
  len : S.known.length = n + 1
  zero : S.known.getD 0 0 = 0
  var : ∀ v : Nat, S.known.getD v 0 = 0 ∨ (S.known.getD v 0).natAbs = v
  tr : ∀ x, S.kn x ↔ x ∈ S.trail
  tnd : S.trail.Nodup
  lk : S.looked ≤ S.trail.length
  root : R <+: S.trail
  ok : ∀ c ∈ G, ∀ x ∈ c, x ≠ 0 ∧ x.natAbs ≤ n
  der : ∀ x, S.kn x → Der G A x
  from_ : ∀ (i : Nat) (e : Cb), S.cls[i]? = some e → OkB G e
  wmem : ∀ (i : Nat) (e : Cb), S.cls[i]? = some e → (i : Int) ∈ S.watch e.a ∧ (i : Int) ∈ S.watch e.b
  wi : ∀ l (z : Int), z ∈ S.watch l → ∃ (j : Nat) (e : Cb), z = (j : Int) ∧ S.cls[j]? = some e ∧ (l = e.a ∨ l = e.b)
  wnd : ∀ l, (S.watch l).Nodup
  curk : cur = 0 ∨ S.done cur
  wa : ∀ (i : Nat) (e : Cb), S.cls[i]? = some e → S.wt cur todo i e.a e.b ∧ S.wt cur todo i e.b e.a
  rt : ∀ (i : Nat) (e : Cb), S.cls[i]? = some e → (-e.a ∈ R → e.b ∈ R) ∧ (-e.b ∈ R → e.a ∈ R)

section
variable {G : List (List Int)} {A R : List Int} {n : Nat} {S : Sb} {cur : Int} {todo : List Int}
theorem Sb.done_kn (J : Jnv G A n R S cur todo) {x : Int} (h : S.done x) : S.kn x := (J.tr x).2 (List.mem_of_mem_take h)
theorem Jnv.unique (_ : Jnv G A n R S cur todo) {x : Int} (h : S.kn x) (h' : S.kn (-x)) : False := by
  obtain ⟨h0, h1⟩ := h
  obtain ⟨_, h2⟩ := h'
  unfold kat at h1 h2
  rw [Int.natAbs_neg, h1] at h2
  omega
theorem Jnv.neg_of (J : Jnv G A n R S cur todo) {x : Int} (hx : kat S.known x ≠ 0) (hx' : kat S.known x ≠ x) : S.kn (-x) := by
  have h := J.var x.natAbs
  unfold kat at hx hx'
  unfold Sb.kn kat
  rw [Int.natAbs_neg]
  rcases h with h | h
  · exact absurd h hx
  · refine ⟨?_, ?_⟩ <;> omega
theorem Jnv.knle (J : Jnv G A n R S cur todo) {x : Int} (h : S.kn x) : x.natAbs ≤ n := by
  rcases Nat.lt_or_ge x.natAbs (n + 1) with h1 | h1
  · omega
  · exfalso
    have h2 := h.2
    unfold kat at h2
    rw [List.getD_eq_getElem?_getD, List.getElem?_eq_none (by rw [J.len]; omega)] at h2
    exact h.1 h2.symm
theorem Jnv.rootk (J : Jnv G A n R S cur todo) {x : Int} (h : x ∈ R) : S.kn x := (J.tr x).2 (J.root.subset h)

theorem knb_learn {x y : Int} (h : x.natAbs < S.known.length) (hx : x ≠ 0) (h0 : kat S.known x = 0) : (learnB S x).1.kn y ↔ y = x ∨ S.kn y := by
  unfold learnB
  rw [if_pos h0]
  unfold Sb.kn
  dsimp only
  rw [kat_set h]
  by_cases hy : y.natAbs = x.natAbs
  · rw [if_pos hy]
    have : kat S.known y = 0 := by unfold kat at h0 ⊢; rw [hy]; exact h0
    rw [this]
    constructor
    · rintro ⟨_, rfl⟩; exact .inl rfl
    · rintro (rfl | ⟨h1, h2⟩)
      · exact ⟨hx, rfl⟩
      · omega
  · rw [if_neg hy]
    constructor
    · exact .inr
    · rintro (rfl | h1)
      · exact absurd rfl hy
      · exact h1

/-- What is learnt. -/
theorem Jnv.learn (J : Jnv G A n R S cur todo) {x : Int} (hx : x ≠ 0) (hn : x.natAbs ≤ n) (hd : Der G A x) :
    Jnv G A n R (learnB S x).1 cur todo ∧ (∀ y, S.kn y → (learnB S x).1.kn y) ∧ ((learnB S x).2 = true → (learnB S x).1.kn x) ∧ ((learnB S x).2 = false → Fails G A) ∧
      (learnB S x).1.cls = S.cls ∧ (learnB S x).1.watch = S.watch ∧ (learnB S x).1.looked = S.looked := by
  by_cases h0 : kat S.known x = 0
  · have hl : x.natAbs < S.known.length := by rw [J.len]; omega
    have hk := fun y => knb_learn (y := y) hl hx h0
    have hnk : ¬ S.kn x := fun h => h.1 (h.2.symm.trans h0)
    have hL : learnB S x = ({ S with known := S.known.set x.natAbs x, trail := S.trail ++ [x] }, true) := by unfold learnB; rw [if_pos h0]
    have hq : (learnB S x).1.trail = S.trail ++ [x] := by rw [hL]
    have hw : (learnB S x).1.watch = S.watch := by rw [hL]
    have hc : (learnB S x).1.cls = S.cls := by rw [hL]
    have hlk : (learnB S x).1.looked = S.looked := by rw [hL]
    have hkn : (learnB S x).1.known = S.known.set x.natAbs x := by rw [hL]
    have h2 : (learnB S x).2 = true := by rw [hL]
    have hdone : ∀ y, (learnB S x).1.done y ↔ S.done y := fun y => by
      unfold Sb.done
      rw [hq, hlk, List.take_append_of_le_length J.lk]
    have hwt : ∀ (i : Nat) l o, S.wt cur todo i l o → (learnB S x).1.wt cur todo i l o := fun i l o h => by
      unfold Sb.wt at h ⊢
      rw [hdone, hk]
      exact h.imp_left .inr
    refine ⟨⟨by rw [hkn, List.length_set]; exact J.len, ?_, fun v => ?_, fun y => ?_, ?_, by rw [hq, hlk, List.length_append]; have := J.lk; omega, by rw [hq]; exact J.root.trans (List.prefix_append _ _), J.ok, fun y hy => ?_, fun i e he => J.from_ i e (hc ▸ he), fun i e he => ?_, fun l i hi => ?_, fun l => ?_, ?_, fun i e he => ?_, fun i e he => J.rt i e (hc ▸ he)⟩, fun y hy => (hk y).2 (.inr hy), fun _ => (hk x).2 (.inl rfl), fun h => absurd h (by rw [h2]; simp), hc, hw, hlk⟩
    · rw [hkn, List.getD_eq_getElem?_getD, List.getElem?_set, if_neg (by omega), ← List.getD_eq_getElem?_getD]; exact J.zero
    · rw [hkn, List.getD_eq_getElem?_getD, List.getElem?_set]
      by_cases hv : x.natAbs = v
      · rw [if_pos hv, if_pos (by omega)]; exact .inr hv
      · rw [if_neg hv, ← List.getD_eq_getElem?_getD]; exact J.var v
    · rw [hk, hq, List.mem_append, List.mem_singleton, J.tr]
      exact ⟨fun h => h.elim .inr .inl, fun h => h.elim .inr .inl⟩
    · rw [hq]
      refine List.nodup_append.2 ⟨J.tnd, by simp, ?_⟩
      intro a ha b hb
      rw [List.mem_singleton] at hb
      rintro rfl
      exact hnk (hb ▸ (J.tr a).2 ha)
    · rcases (hk y).1 hy with rfl | h
      · exact hd
      · exact J.der y h
    · rw [hw]; rw [hc] at he; exact J.wmem i e he
    · rw [hw] at hi; rw [hc]; exact J.wi l i hi
    · rw [hw]; exact J.wnd l
    · rcases J.curk with h | h
      · exact .inl h
      · exact .inr ((hdone cur).2 h)
    · rw [hc] at he
      obtain ⟨h1, h3⟩ := J.wa i e he
      exact ⟨hwt _ _ _ h1, hwt _ _ _ h3⟩
  · have h1 : (learnB S x).1 = S := by unfold learnB; rw [if_neg h0]
    have h2 : (learnB S x).2 = decide (kat S.known x = x) := by unfold learnB; rw [if_neg h0]
    rw [h1, h2]
    refine ⟨J, fun _ h => h, fun h => ⟨hx, of_decide_eq_true h⟩, fun h => .inr ⟨x, hd, J.der _ (J.neg_of h0 (of_decide_eq_false h))⟩, rfl, rfl, rfl⟩

/-- The next literal is looked at. -/
theorem Jnv.look (J : Jnv G A n R S 0 []) {x : Int} (hx : S.trail[S.looked]? = some x) :
    Jnv G A n R { S with looked := S.looked + 1 } x (S.watch (-x)) := by
  have hlt : S.looked < S.trail.length := (List.getElem?_eq_some_iff.1 hx).1
  have htk : S.trail.take (S.looked + 1) = S.trail.take S.looked ++ [x] := by
    rw [List.take_succ_eq_append_getElem hlt]
    congr 1
    rw [List.getElem?_eq_getElem hlt] at hx
    rw [Option.some.inj hx]
  have hd : ∀ y, Sb.done { S with looked := S.looked + 1 } y ↔ S.done y ∨ y = x := fun y => by
    unfold Sb.done; dsimp only; rw [htk, List.mem_append, List.mem_singleton]
  have hwt : ∀ (i : Nat) (e : Cb) l o, S.cls[i]? = some e → l ≠ 0 → (i : Int) ∈ S.watch l → S.wt 0 [] i l o → Sb.wt { S with looked := S.looked + 1 } x (S.watch (-x)) i l o := fun i e l o _ hl hm h => by
    unfold Sb.wt at h ⊢
    rw [if_neg (by omega)] at h
    refine h.imp_right fun h => ?_
    by_cases hlx : -l = x
    · rw [if_pos hlx]; rw [show -x = l by omega]; exact hm
    · rw [if_neg hlx, hd]; exact fun h' => h'.elim h hlx
  refine ⟨J.len, J.zero, J.var, J.tr, J.tnd, hlt, J.root, J.ok, J.der, J.from_, J.wmem, J.wi, J.wnd, .inr ((hd x).2 (.inr rfl)), fun i e he => ?_, J.rt⟩
  have hok := J.from_ i e he
  obtain ⟨h1, h2⟩ := J.wa i e he
  obtain ⟨h3, h4⟩ := J.wmem i e he
  exact ⟨hwt i e _ _ he (J.ok _ hok.mem _ hok.ha).1 h3 h1, hwt i e _ _ he (J.ok _ hok.mem _ hok.hb).1 h4 h2⟩
theorem Jnv.stop (J : Jnv G A n R S cur []) : Jnv G A n R S 0 [] := by
  have hwt : ∀ (i : Nat) l o, l ≠ 0 → S.wt cur [] i l o → S.wt 0 [] i l o := fun i l o hl h => by
    unfold Sb.wt at h ⊢
    rw [if_neg (by omega)]
    rcases h with h | h
    · exact .inl h
    · split at h
      · simp at h
      · exact .inr h
  refine { J with curk := .inl rfl, wa := fun i e he => ?_ }
  have hok := J.from_ i e he
  obtain ⟨h1, h2⟩ := J.wa i e he
  exact ⟨hwt i _ _ (J.ok _ hok.mem _ hok.ha).1 h1, hwt i _ _ (J.ok _ hok.mem _ hok.hb).1 h2⟩

/-- The clause may have gone on in its search. -/
theorem Jnv.next (J : Jnv G A n R S cur todo) {i : Nat} {e : Cb} (he : S.cls[i]? = some e) {k : Nat} (hk : k < e.lits.length) :
    Jnv G A n R { S with cls := S.cls.set i { e with next := k } } cur todo := by
  have hlt : i < S.cls.length := (List.getElem?_eq_some_iff.1 he).1
  have hc : ∀ j e', (S.cls.set i { e with next := k })[j]? = some e' → ∃ e0, S.cls[j]? = some e0 ∧ e'.a = e0.a ∧ e'.b = e0.b ∧ e'.lits = e0.lits ∧ (e' = e0 ∨ e'.next = k ∧ e0 = e) := fun j e' h => by
    rcases getElem?_setB _ _ _ _ _ h with ⟨rfl, rfl⟩ | ⟨_, h⟩
    · exact ⟨e, he, rfl, rfl, rfl, .inr ⟨rfl, rfl⟩⟩
    · exact ⟨e', h, rfl, rfl, rfl, .inl rfl⟩
  refine ⟨J.len, J.zero, J.var, J.tr, J.tnd, J.lk, J.root, J.ok, J.der, fun j e' h => ?_, fun j e' h => ?_, fun l z hz => ?_, J.wnd, J.curk, fun j e' h => ?_, fun j e' h => ?_⟩
  · obtain ⟨e0, h0, h1, h2, h3, h4⟩ := hc j e' h
    have ho := J.from_ j e0 h0
    refine ⟨by rw [h3]; exact ho.mem, by rw [h1, h2]; exact ho.ne, by rw [h1, h3]; exact ho.ha, by rw [h2, h3]; exact ho.hb, ?_⟩
    rw [h3]
    rcases h4 with rfl | ⟨h4, rfl⟩
    · exact ho.nx
    · rw [h4]; exact hk
  · obtain ⟨e0, h0, h1, h2, _⟩ := hc j e' h
    rw [h1, h2]; exact J.wmem j e0 h0
  · obtain ⟨j, e', h1, h2, h3⟩ := J.wi l z hz
    by_cases hj : j = i
    · subst hj
      rw [he] at h2; cases h2
      exact ⟨j, _, h1, List.getElem?_set_self hlt, h3⟩
    · exact ⟨j, e', h1, by dsimp only; rw [List.getElem?_set_ne (Ne.symm hj)]; exact h2, h3⟩
  · obtain ⟨e0, h0, h1, h2, _⟩ := hc j e' h
    rw [h1, h2]; exact J.wa j e0 h0
  · obtain ⟨e0, h0, h1, h2, _⟩ := hc j e' h
    rw [h1, h2]; exact J.rt j e0 h0

/-- A clause has been looked at and stays: the literal beside is known. -/
theorem Jnv.keep {x : Int} {i : Nat} (J : Jnv G A n R S x ((i : Int) :: todo)) {e : Cb} (he : S.cls[i]? = some e) (ho : S.kn (otherB e (-x))) :
    Jnv G A n R S x todo := by
  have hok := J.from_ i e he
  have hxe : ∀ l o, (l = e.a ∧ o = e.b) ∨ (l = e.b ∧ o = e.a) → -l = x → S.kn o := fun l o h hl => by
    have : o = otherB e (-x) := by
      unfold otherB
      rcases h with ⟨rfl, rfl⟩ | ⟨rfl, rfl⟩
      · rw [if_pos (by omega)]
      · rw [if_neg (fun h => hok.ne (by omega))]
    rw [this]; exact ho
  refine { J with wa := fun j e' hj => ?_ }
  have hw := J.wa j e' hj
  by_cases hij : j = i
  · subst hij
    rw [he] at hj; cases hj
    have g : ∀ l o, (l = e.a ∧ o = e.b) ∨ (l = e.b ∧ o = e.a) → S.wt x (((j : Int)) :: todo) j l o → S.wt x todo j l o := fun l o hlo h => by
      unfold Sb.wt at h ⊢
      by_cases hl : -l = x
      · exact .inl (hxe l o hlo hl)
      · rw [if_neg hl] at h ⊢; exact h
    exact ⟨g _ _ (.inl ⟨rfl, rfl⟩) hw.1, g _ _ (.inr ⟨rfl, rfl⟩) hw.2⟩
  · have g : ∀ l o, S.wt x ((i : Int) :: todo) j l o → S.wt x todo j l o := fun l o h => by
      unfold Sb.wt at h ⊢
      refine h.imp_right fun h => ?_
      by_cases hl : -l = x
      · rw [if_pos hl] at h ⊢
        exact (List.mem_cons.1 h).resolve_left (by omega)
      · rw [if_neg hl] at h ⊢; exact h
    exact ⟨g _ _ hw.1, g _ _ hw.2⟩

/-- A clause watches another literal in place of the one that became false. -/
theorem Jnv.move {x : Int} {i : Nat} (hx0 : x ≠ 0) (J : Jnv G A n R S x ((i : Int) :: todo)) {e : Cb} (he : S.cls[i]? = some e) (hx : -x = e.a ∨ -x = e.b) {y : Int} (hy : y ∈ e.lits) (hyo : y ≠ otherB e (-x)) (hyf : ¬ S.kn (-y)) {k : Nat} (hk : k < e.lits.length)
    {W : List Int} (hW : W.Nodup) (hWm : ∀ z, z ∈ W ↔ z ∈ S.watch (-x) ∧ z ≠ i) {todo' : List Int} (ht : ∀ z ∈ todo, z ≠ i → z ∈ todo') :
    Jnv G A n R { S with cls := S.cls.set i ⟨otherB e (-x), y, e.lits, k⟩, watch := upd (upd S.watch y (S.watch y ++ [(i : Int)])) (-x) W } x todo' := by
  have hlt : i < S.cls.length := (List.getElem?_eq_some_iff.1 he).1
  have hok := J.from_ i e he
  obtain ⟨o, ho⟩ : ∃ o, otherB e (-x) = o := ⟨_, rfl⟩
  have hco : (-x = e.a ∧ o = e.b) ∨ (-x = e.b ∧ o = e.a) := by
    unfold otherB at ho
    rcases hx with h | h
    · rw [if_pos h.symm] at ho; exact .inl ⟨h, ho.symm⟩
    · rw [if_neg (fun h' => hok.ne (by omega))] at ho; exact .inr ⟨h, ho.symm⟩
  rw [ho] at hyo ⊢
  have hom : o ∈ e.lits := by rcases hco with ⟨_, h⟩ | ⟨_, h⟩ <;> rw [h]; exact hok.hb; exact hok.ha
  have hox : o ≠ -x := fun h => by rcases hco with ⟨h1, h2⟩ | ⟨h1, h2⟩ <;> exact hok.ne (by omega)
  have hkx : S.kn x := Sb.done_kn J (J.curk.resolve_left hx0)
  have hyx : y ≠ -x := fun h => hyf (by rw [h, Int.neg_neg]; exact hkx)
  have hiy : (i : Int) ∉ S.watch y := fun h => by
    obtain ⟨j, e', h1, h2, h3⟩ := J.wi y _ h
    obtain rfl : i = j := by exact_mod_cast h1
    rw [he] at h2; cases h2
    rcases hco with ⟨h4, h5⟩ | ⟨h4, h5⟩ <;> rcases h3 with h3 | h3 <;> omega
  have hio : (i : Int) ∈ S.watch o := by
    have := J.wmem i e he
    rcases hco with ⟨_, h⟩ | ⟨_, h⟩ <;> rw [h]; exact this.2; exact this.1
  have hnx : ¬ S.kn (-x) := fun h => J.unique hkx h
  have hrx : -x ∉ R := fun h => hnx (J.rootk h)
  have hry : -y ∉ R := fun h => hyf (J.rootk h)
  have hro : -o ∉ R := fun h => by
    have := J.rt i e he
    rcases hco with ⟨h1, h2⟩ | ⟨h1, h2⟩
    · rw [h2] at h; have := this.2 h; rw [← h1] at this; exact hrx this
    · rw [h2] at h; have := this.1 h; rw [← h1] at this; exact hrx this
  have hwo : S.wt x ((i : Int) :: todo) i o (-x) := by
    have := J.wa i e he
    rcases hco with ⟨h1, h2⟩ | ⟨h1, h2⟩
    · rw [h1, h2]; exact this.2
    · rw [h1, h2]; exact this.1
  have hwm : ∀ l z, z ∈ upd (upd S.watch y (S.watch y ++ [(i : Int)])) (-x) W l ↔ if l = -x then z ∈ S.watch (-x) ∧ z ≠ i else z ∈ S.watch l ∨ (l = y ∧ z = i) := fun l z => by
    by_cases hl : l = -x
    · rw [hl, upd_same, if_pos rfl]; exact hWm z
    · rw [upd_other _ _ hl, if_neg hl]
      by_cases hly : l = y
      · rw [hly, upd_same, List.mem_append, List.mem_singleton]; simp
      · rw [upd_other _ _ hly]; simp [hly]
  refine ⟨J.len, J.zero, J.var, J.tr, J.tnd, J.lk, J.root, J.ok, J.der, fun j e' h => ?_, fun j e' h => ?_, fun l z hz => ?_, fun l => ?_, J.curk, fun j e' h => ?_, fun j e' h => ?_⟩
  · rcases getElem?_setB _ _ _ _ _ h with ⟨rfl, rfl⟩ | ⟨_, h⟩
    · exact ⟨hok.mem, fun h => hyo h.symm, hom, hy, hk⟩
    · exact J.from_ j e' h
  · dsimp only
    rw [hwm, hwm]
    rcases getElem?_setB _ _ _ _ _ h with ⟨rfl, rfl⟩ | ⟨hj, h⟩
    · dsimp only
      rw [if_neg hox, if_neg hyx]
      exact ⟨.inl hio, .inr ⟨rfl, rfl⟩⟩
    · obtain ⟨h1, h2⟩ := J.wmem j e' h
      have hji : (j : Int) ≠ i := by omega
      constructor
      · split
        · rename_i hh; rw [hh] at h1; exact ⟨h1, hji⟩
        · exact .inl h1
      · split
        · rename_i hh; rw [hh] at h2; exact ⟨h2, hji⟩
        · exact .inl h2
  · dsimp only at hz
    rw [hwm] at hz
    have hold : z ∈ S.watch l → (z ≠ i ∨ l ≠ -x) → ∃ (j : Nat) (e' : Cb), z = (j : Int) ∧ (S.cls.set i ⟨o, y, e.lits, k⟩)[j]? = some e' ∧ (l = e'.a ∨ l = e'.b) := fun hz hne => by
      obtain ⟨j, e', h1, h2, h3⟩ := J.wi l z hz
      by_cases hj : j = i
      · subst hj
        rw [he] at h2; cases h2
        refine ⟨j, _, h1, List.getElem?_set_self hlt, .inl ?_⟩
        have hl : l ≠ -x := hne.resolve_left (by omega)
        dsimp only
        rcases hco with ⟨h4, h5⟩ | ⟨h4, h5⟩ <;> rcases h3 with h3 | h3 <;> omega
      · exact ⟨j, e', h1, by rw [List.getElem?_set_ne (Ne.symm hj)]; exact h2, h3⟩
    split at hz
    · rename_i hl; rw [hl]; rw [hl] at hold; exact hold hz.1 (.inl hz.2)
    · rename_i hl
      rcases hz with hz | ⟨rfl, rfl⟩
      · exact hold hz (.inr hl)
      · exact ⟨i, _, rfl, List.getElem?_set_self hlt, .inr rfl⟩
  · dsimp only
    by_cases hl : l = -x
    · rw [hl, upd_same]; exact hW
    · rw [upd_other _ _ hl]
      by_cases hly : l = y
      · rw [hly, upd_same]
        refine List.nodup_append.2 ⟨J.wnd y, by simp, fun a ha b hb => ?_⟩
        rw [List.mem_singleton] at hb
        rintro rfl
        exact hiy (hb ▸ ha)
      · rw [upd_other _ _ hly]; exact J.wnd l
  · rcases getElem?_setB _ _ _ _ _ h with ⟨rfl, rfl⟩ | ⟨hj, h⟩
    · dsimp only
      constructor
      · unfold Sb.wt at hwo ⊢
        have h1 := hwo.resolve_left hnx
        rw [if_neg (by omega)] at h1 ⊢
        exact .inr h1
      · unfold Sb.wt
        rw [if_neg (fun h => hyx (by omega))]
        exact .inr fun h => hyf (Sb.done_kn J h)
    · obtain ⟨o', ho'⟩ : ∃ o', o = o' := ⟨_, rfl⟩
      rw [ho']
      have g : ∀ l o, S.wt x ((i : Int) :: todo) j l o → Sb.wt { S with cls := S.cls.set i ⟨o', y, e.lits, k⟩, watch := upd (upd S.watch y (S.watch y ++ [(i : Int)])) (-x) W } x todo' j l o := fun l o h => by
        unfold Sb.wt at h ⊢
        refine h.imp_right fun h => ?_
        by_cases hl : -l = x
        · rw [if_pos hl] at h ⊢
          exact ht _ ((List.mem_cons.1 h).resolve_left (by omega)) (by omega)
        · rw [if_neg hl] at h ⊢; exact h
      obtain ⟨h1, h2⟩ := J.wa j e' h
      exact ⟨g _ _ h1, g _ _ h2⟩
  · rcases getElem?_setB _ _ _ _ _ h with ⟨rfl, rfl⟩ | ⟨hj, h⟩
    · exact ⟨fun h => absurd h hro, fun h => absurd h hry⟩
    · exact J.rt j e' h

/-- All clauses are watched, or hold for good. -/
def Cover (G : List (List Int)) (K : List Int) (l : List Cb) : Prop := ∀ c ∈ G, (∃ (i : Nat) (e : Cb), l[i]? = some e ∧ e.lits = c) ∨ ∃ z ∈ c, z ∈ K
/-- At the end all that follows is known. -/
theorem Jnv.closed (J : Jnv G A n R S 0 []) (hq : S.looked = S.trail.length) {K : List Int} (hK : ∀ x ∈ K, S.kn x) (hc : Cover G K S.cls) (hA : ∀ x ∈ A, S.kn x) {x : Int} (h : Der G A x) : S.kn x := by
  have hd : ∀ y, S.kn y → S.done y := fun y h => by unfold Sb.done; rw [hq, List.take_length]; exact (J.tr y).1 h
  induction h with
  | assume h => exact hA _ h
  | @unit c x hc' hx _ ih =>
    rcases hc c hc' with ⟨i, e, he, rfl⟩ | ⟨y, hy, hk⟩
    · obtain ⟨h1, h2⟩ := J.wa i e he
      have hok := J.from_ i e he
      have ha0 := (J.ok _ hc' _ hok.ha).1
      have hb0 := (J.ok _ hc' _ hok.hb).1
      unfold Sb.wt at h1 h2
      rw [if_neg (by omega)] at h1 h2
      by_cases hax : e.a = x
      · have hbx : e.b ≠ x := fun h => hok.ne (by rw [hax, h])
        rcases h2 with h2 | h2
        · rw [← hax]; exact h2
        · exact absurd (hd _ (ih e.b hok.hb hbx)) h2
      · have hna := ih e.a hok.ha hax
        rcases h1 with h1 | h1
        · by_cases hbx : e.b = x
          · rw [← hbx]; exact h1
          · exact (J.unique h1 (ih e.b hok.hb hbx)).elim
        · exact absurd (hd _ hna) h1
    · by_cases hyx : y = x
      · rw [← hyx]; exact hK y hk
      · exact (J.unique (hK y hk) (ih y hy hyx)).elim
theorem Jnv.fine (J : Jnv G A n R S 0 []) (hq : S.looked = S.trail.length) {K : List Int} (hK : ∀ x ∈ K, S.kn x) (hc : Cover G K S.cls) (hA : ∀ x ∈ A, S.kn x) : ¬ Fails G A := by
  rintro (h | ⟨x, h1, h2⟩)
  · rcases hc [] h with ⟨i, e, he, h3⟩ | ⟨z, hz, _⟩
    · have := (J.from_ i e he).ha; rw [h3] at this; simp at this
    · simp at hz
  · exact J.unique (J.closed hq hK hc hA h1) (J.closed hq hK hc hA h2)
end
end Go.Proofs.Ytbljkbdbiceokaa
