/-
  Unit propagation, plain: what follows, when it fails; two watched literals as a machine over lists, and that it finds just what follows.
-/
import Derived.Test.YtbljkbdbiceokaaLitJ
namespace Go.Proofs.Ytbljkbdbiceokaa

/-- What follows by unit propagation, whether or not it fails. -/
inductive Der (F : List (List Int)) (A : List Int) : Int → Prop
  | assume {x : Int} : x ∈ A → Der F A x
  | unit {c : List Int} {x : Int} : c ∈ F → x ∈ c → (∀ y ∈ c, y ≠ x → Der F A (-y)) → Der F A x
def Fails (F : List (List Int)) (A : List Int) : Prop := [] ∈ F ∨ ∃ x, Der F A x ∧ Der F A (-x)

/-- A clause that is watched. -/
structure Cl where
  a : Int
  b : Int
  rest : List Int
deriving Inhabited

/-- What is known at some time. -/
structure St where
  known : List Int
  queue : List Int
  watch : Int → List Int
  cls : List Cl

def kat (k : List Int) (x : Int) : Int := k.getD x.natAbs 0
def St.kn (S : St) (x : Int) : Prop := x ≠ 0 ∧ kat S.known x = x
def upd (f : Int → List Int) (x : Int) (l : List Int) : Int → List Int := fun y => if y = x then l else f y
theorem upd_same (f : Int → List Int) (x : Int) (l : List Int) : upd f x l x = l := by simp [upd]
theorem upd_other (f : Int → List Int) {x y : Int} (l : List Int) (h : y ≠ x) : upd f x l y = f y := by simp [upd, h]

def learnS (S : St) (x : Int) : St × Bool :=
  if kat S.known x = 0 then ({ S with known := S.known.set x.natAbs x, queue := S.queue ++ [x] }, true) else (S, decide (kat S.known x = x))

/-- The first literal that is another one, and what stands behind it. -/
def diffS (x : Int) : List Int → Option (Int × List Int)
  | [] => none
  | y :: r => if y ≠ x then some (y, r) else diffS x r
def watchS (S : St) (c : List Int) : St × Bool :=
  match c with
  | [] => (S, false)
  | x :: r => match diffS x r with
    | some (y, r') => ({ S with cls := S.cls ++ [⟨x, y, r'⟩], watch := upd (upd S.watch x (S.watch x ++ [(S.cls.length : Int)])) y (S.watch y ++ [(S.cls.length : Int)]) }, true)
    | none => learnS S x
/-- The first literal that is neither the other watched one nor false, and what stands behind it. -/
def scanS (k : List Int) (o : Int) : List Int → Option (Int × List Int)
  | [] => none
  | y :: r => if y ≠ o ∧ kat k y ≠ -y then some (y, r) else scanS k o r
/-- A clause with a certain literal first. -/
def turnC (c : Cl) (x : Int) : Cl := if c.a = x then c else ⟨c.b, c.a, c.rest⟩
def replaceS (S : St) (n : Nat) (x : Int) : St × Bool :=
  let c := turnC (S.cls.getD n default) x
  match scanS S.known c.b c.rest with
  | some (y, r) => ({ S with cls := S.cls.set n ⟨y, c.b, r⟩, watch := upd S.watch y (S.watch y ++ [(n : Int)]) }, true)
  | none => learnS { S with cls := S.cls.set n ⟨c.a, c.b, []⟩ } c.b

theorem diffS_some {x y : Int} {r : List Int} : ∀ {l : List Int}, diffS x l = some (y, r) → y ≠ x ∧ ∃ p, l = p ++ y :: r ∧ ∀ z ∈ p, z = x
  | [], h => by simp [diffS] at h
  | z :: l, h => by
    unfold diffS at h
    by_cases hz : z ≠ x
    · rw [if_pos hz] at h; cases h; exact ⟨hz, [], rfl, by simp⟩
    · rw [if_neg hz] at h
      obtain ⟨h1, p, rfl, h3⟩ := diffS_some h
      refine ⟨h1, z :: p, rfl, fun u hu => ?_⟩
      rcases List.mem_cons.1 hu with rfl | hu
      · exact Decidable.not_not.1 hz
      · exact h3 u hu
theorem diffS_none {x : Int} : ∀ {l : List Int}, diffS x l = none → ∀ z ∈ l, z = x
  | [], _ => by simp
  | z :: l, h => by
    unfold diffS at h
    by_cases hz : z ≠ x
    · rw [if_pos hz] at h; cases h
    · rw [if_neg hz] at h
      intro u hu
      rcases List.mem_cons.1 hu with rfl | hu
      · exact Decidable.not_not.1 hz
      · exact diffS_none h u hu
theorem scanS_some {k : List Int} {o y : Int} {r : List Int} : ∀ {l : List Int}, scanS k o l = some (y, r) → y ≠ o ∧ kat k y ≠ -y ∧ ∃ p, l = p ++ y :: r ∧ ∀ z ∈ p, z = o ∨ kat k z = -z
  | [], h => by simp [scanS] at h
  | z :: l, h => by
    unfold scanS at h
    by_cases hz : z ≠ o ∧ kat k z ≠ -z
    · rw [if_pos hz] at h; cases h; exact ⟨hz.1, hz.2, [], rfl, by simp⟩
    · rw [if_neg hz] at h
      obtain ⟨h1, h2, p, rfl, h3⟩ := scanS_some h
      refine ⟨h1, h2, z :: p, rfl, fun u hu => ?_⟩
      rcases List.mem_cons.1 hu with rfl | hu
      · by_cases hzo : u = o
        · exact .inl hzo
        · exact .inr (Decidable.byContradiction fun hn => hz ⟨hzo, hn⟩)
      · exact h3 u hu
theorem scanS_none {k : List Int} {o : Int} : ∀ {l : List Int}, scanS k o l = none → ∀ z ∈ l, z = o ∨ kat k z = -z
  | [], _ => by simp
  | z :: l, h => by
    unfold scanS at h
    by_cases hz : z ≠ o ∧ kat k z ≠ -z
    · rw [if_pos hz] at h; cases h
    · rw [if_neg hz] at h
      intro u hu
      rcases List.mem_cons.1 hu with rfl | hu
      · by_cases hzo : u = o
        · exact .inl hzo
        · exact .inr (Decidable.byContradiction fun hn => hz ⟨hzo, hn⟩)
      · exact scanS_none h u hu

/-- This entry stands for this clause. -/
structure Of (S : St) (c : List Int) (e : Cl) : Prop where
  ne : e.a ≠ e.b
  ha : e.a ∈ c
  hb : e.b ∈ c
  rest : ∀ z ∈ e.rest, z ∈ c
  all : ∀ z ∈ c, z = e.a ∨ z = e.b ∨ z ∈ e.rest ∨ S.kn (-z)

/-- What became known, and has been looked at (or is being looked at). -/
def St.done (S : St) (x : Int) : Prop := S.kn x ∧ x ∉ S.queue
/-- Clause i will be looked at when the watched literal l becomes false. -/
def St.waits (S : St) (cur : Int) (todo : List Int) (i : Nat) (l : Int) : Prop := if -l = cur then (i : Int) ∈ todo else ¬ S.done (-l) ∧ (i : Int) ∈ S.watch l

/-- F: the formula; G: its clauses that have been added; n: how many variables; cur: what is being looked at (0: nothing), and which clauses are still to be looked at for it. -/
structure Inv (F G : List (List Int)) (A : List Int) (n : Nat) (S : St) (cur : Int) (todo : List Int) : Prop where
  len : S.known.length = n + 1
  zero : S.known.getD 0 0 = 0
  var : ∀ v : Nat, S.known.getD v 0 = 0 ∨ (S.known.getD v 0).natAbs = v
  sub : ∀ c ∈ G, c ∈ F
  ok : ∀ c ∈ F, ∀ x ∈ c, x ≠ 0 ∧ x.natAbs ≤ n
  der : ∀ x, S.kn x → Der F A x
  qkn : ∀ x ∈ S.queue, S.kn x
  qnd : S.queue.Nodup
  curk : cur = 0 ∨ S.done cur
  from_ : ∀ (i : Nat) (e : Cl), S.cls[i]? = some e → ∃ c ∈ G, Of S c e
  cover : ∀ c ∈ G, (∃ (i : Nat) (e : Cl), S.cls[i]? = some e ∧ Of S c e) ∨ ∃ x ∈ c, S.kn x ∧ ∀ z ∈ c, z = x
  wa : ∀ (i : Nat) (e : Cl), S.cls[i]? = some e → (S.kn e.b ∨ S.waits cur todo i e.a) ∧ (S.kn e.a ∨ S.waits cur todo i e.b)
  wi : ∀ l (i : Int), i ∈ S.watch l → ∃ (j : Nat) (e : Cl), i = (j : Int) ∧ S.cls[j]? = some e ∧ (¬ S.done (-l) → l = e.a ∨ l = e.b)
  wnd : ∀ l, ¬ S.done (-l) → (S.watch l).Nodup
  tnd : todo.Nodup
  ti : ∀ i ∈ todo, ∃ (j : Nat) (e : Cl), i = (j : Int) ∧ S.cls[j]? = some e ∧ (-cur = e.a ∨ -cur = e.b)

theorem kn_unique {F G : List (List Int)} {A : List Int} {n : Nat} {S : St} {cur : Int} {todo : List Int} (_ : Inv F G A n S cur todo) {x : Int} (h : S.kn x) (h' : S.kn (-x)) : False := by
  obtain ⟨h0, h1⟩ := h
  obtain ⟨_, h2⟩ := h'
  unfold kat at h1 h2
  rw [Int.natAbs_neg, h1] at h2
  omega
theorem kn_neg_of {F G : List (List Int)} {A : List Int} {n : Nat} {S : St} {cur : Int} {todo : List Int} (I : Inv F G A n S cur todo) {x : Int} (hx : kat S.known x ≠ 0) (hx' : kat S.known x ≠ x) : S.kn (-x) := by
  have h := I.var x.natAbs
  unfold kat at hx hx'
  unfold St.kn kat
  rw [Int.natAbs_neg]
  rcases h with h | h
  · exact absurd h hx
  · refine ⟨?_, ?_⟩ <;> omega

/-! What is learnt. -/
theorem kat_set {k : List Int} {x y : Int} (h : x.natAbs < k.length) : kat (k.set x.natAbs x) y = if y.natAbs = x.natAbs then x else kat k y := by
  unfold kat
  rw [List.getD_eq_getElem?_getD, List.getElem?_set]
  by_cases hy : y.natAbs = x.natAbs
  · rw [if_pos hy.symm, if_pos hy, if_pos h]; rfl
  · rw [if_neg (Ne.symm hy), if_neg hy, List.getD_eq_getElem?_getD]

theorem kn_learn {S : St} {x y : Int} (h : x.natAbs < S.known.length) (hx : x ≠ 0) (h0 : kat S.known x = 0) : (learnS S x).1.kn y ↔ y = x ∨ S.kn y := by
  unfold learnS
  rw [if_pos h0]
  unfold St.kn
  dsimp only
  rw [kat_set h]
  by_cases hy : y.natAbs = x.natAbs
  · rw [if_pos hy]
    have : kat S.known y = 0 := by unfold kat at h0 ⊢; rw [hy]; exact h0
    rw [this]
    constructor
    · rintro ⟨_, rfl⟩; exact .inl rfl
    · rintro (rfl | ⟨h1, h2⟩)
      · exact ⟨hx, rfl⟩
      · omega
  · rw [if_neg hy]
    constructor
    · exact .inr
    · rintro (rfl | h1)
      · exact absurd rfl hy
      · exact h1

theorem Of.mono {S S' : St} {c : List Int} {e : Cl} (h : Of S c e) (hk : ∀ x, S.kn x → S'.kn x) : Of S' c e :=
  ⟨h.ne, h.ha, h.hb, h.rest, fun z hz => (h.all z hz).imp_right fun h => h.imp_right fun h => h.imp_right fun h => hk _ h⟩

theorem Inv.learn {F G : List (List Int)} {A : List Int} {n : Nat} {S : St} {cur : Int} {todo : List Int} (I : Inv F G A n S cur todo) {x : Int} (hx : x ≠ 0) (hn : x.natAbs ≤ n) (hd : Der F A x) :
    Inv F G A n (learnS S x).1 cur todo ∧ (∀ y, S.kn y → (learnS S x).1.kn y) ∧ ((learnS S x).2 = true → (learnS S x).1.kn x) ∧ ((learnS S x).2 = false → Fails F A) := by
  by_cases h0 : kat S.known x = 0
  · have hl : x.natAbs < S.known.length := by rw [I.len]; omega
    have hk := fun y => kn_learn (y := y) hl hx h0
    have hnk : ¬ S.kn x := fun h => h.1 (h.2.symm.trans h0)
    have hq : (learnS S x).1.queue = S.queue ++ [x] := by unfold learnS; rw [if_pos h0]
    have hw : (learnS S x).1.watch = S.watch := by unfold learnS; rw [if_pos h0]
    have hc : (learnS S x).1.cls = S.cls := by unfold learnS; rw [if_pos h0]
    have hkn : (learnS S x).1.known = S.known.set x.natAbs x := by unfold learnS; rw [if_pos h0]
    have h2 : (learnS S x).2 = true := by unfold learnS; rw [if_pos h0]
    have hdone : ∀ y, (learnS S x).1.done y ↔ S.done y := fun y => by
      unfold St.done
      rw [hk, hq, List.mem_append, List.mem_singleton]
      constructor
      · rintro ⟨rfl | h1, h3⟩
        · exact absurd (Or.inr rfl) h3
        · exact ⟨h1, fun h => h3 (.inl h)⟩
      · rintro ⟨h1, h3⟩
        refine ⟨.inr h1, fun h => ?_⟩
        rcases h with h | rfl
        · exact h3 h
        · exact hnk h1
    have hwt : ∀ (i : Nat) l, (learnS S x).1.waits cur todo i l ↔ S.waits cur todo i l := fun i l => by unfold St.waits; rw [hw, hdone]
    refine ⟨⟨by rw [hkn, List.length_set]; exact I.len, ?_, fun v => ?_, I.sub, I.ok, fun y hy => ?_, fun y hy => ?_, ?_, ?_, fun i e he => ?_, fun c hc' => ?_, fun i e he => ?_, fun l i hi => ?_, fun l hl' => ?_, I.tnd, fun i hi => ?_⟩, fun y hy => (hk y).2 (.inr hy), fun _ => (hk x).2 (.inl rfl), fun h => absurd h (by rw [h2]; simp)⟩
    · rw [hkn, List.getD_eq_getElem?_getD, List.getElem?_set, if_neg (by omega), ← List.getD_eq_getElem?_getD]; exact I.zero
    · rw [hkn, List.getD_eq_getElem?_getD, List.getElem?_set]
      by_cases hv : x.natAbs = v
      · rw [if_pos hv, if_pos (by omega)]; exact .inr hv
      · rw [if_neg hv, ← List.getD_eq_getElem?_getD]; exact I.var v
    · rcases (hk y).1 hy with rfl | h
      · exact hd
      · exact I.der y h
    · rw [hq, List.mem_append, List.mem_singleton] at hy
      rcases hy with hy | rfl
      · exact (hk y).2 (.inr (I.qkn y hy))
      · exact (hk _).2 (.inl rfl)
    · rw [hq]
      refine List.nodup_append.2 ⟨I.qnd, by simp, ?_⟩
      intro a ha b hb
      rw [List.mem_singleton] at hb
      rintro rfl
      exact hnk (hb ▸ I.qkn a ha)
    · rcases I.curk with h | h
      · exact .inl h
      · exact .inr ((hdone cur).2 h)
    · rw [hc] at he
      obtain ⟨c, h1, h3⟩ := I.from_ i e he
      exact ⟨c, h1, h3.mono fun y hy => (hk y).2 (.inr hy)⟩
    · rcases I.cover c hc' with ⟨i, e, h1, h3⟩ | ⟨y, h1, h3, h4⟩
      · exact .inl ⟨i, e, by rw [hc]; exact h1, h3.mono fun y hy => (hk y).2 (.inr hy)⟩
      · exact .inr ⟨y, h1, (hk y).2 (.inr h3), h4⟩
    · rw [hc] at he
      obtain ⟨h1, h3⟩ := I.wa i e he
      rw [hk, hk, hwt, hwt]
      exact ⟨h1.imp_left .inr, h3.imp_left .inr⟩
    · rw [hw] at hi
      rw [hc, hdone]
      exact I.wi l i hi
    · rw [hw]
      exact I.wnd l (fun h => hl' ((hdone _).2 h))
    · rw [hc]; exact I.ti i hi
  · have h1 : (learnS S x).1 = S := by unfold learnS; rw [if_neg h0]
    have h2 : (learnS S x).2 = decide (kat S.known x = x) := by unfold learnS; rw [if_neg h0]
    rw [h1, h2]
    refine ⟨I, fun _ h => h, fun h => ⟨hx, of_decide_eq_true h⟩, fun h => .inr ⟨x, hd, I.der _ (kn_neg_of I h0 (of_decide_eq_false h))⟩⟩
