/-
  Unit propagation, plain: clauses are added; one is looked at; the end.
-/
import Derived.Test.YtbljkbdbiceokaaPropA
namespace Go.Proofs.Ytbljkbdbiceokaa

theorem getElem?_snoc {α : Type} (l : List α) (x : α) (i : Nat) (e : α) : (l ++ [x])[i]? = some e ↔ l[i]? = some e ∨ (i = l.length ∧ e = x) := by
  by_cases h : i < l.length
  · rw [List.getElem?_append_left h]
    constructor
    · exact .inl
    · rintro (h1 | ⟨h1, _⟩)
      · exact h1
      · omega
  · rw [List.getElem?_append_right (by omega)]
    have hn : l[i]? = none := List.getElem?_eq_none (by omega)
    by_cases hi : i = l.length
    · subst hi; simp [eq_comm]
    · have : ([x] : List α)[i - l.length]? = none := List.getElem?_eq_none (by simp; omega)
      rw [this, hn]; simp [hi]

/-- Another formula of which this one is the part added so far. -/
theorem Inv.watch {F G : List (List Int)} {A : List Int} {n : Nat} {S : St} {c : List Int} (I : Inv F G A n S 0 []) (hc : c ∈ F) (hnew : ∀ x, S.kn x → x ∈ S.queue) :
    ((watchS S c).2 = true → Inv F (G ++ [c]) A n (watchS S c).1 0 [] ∧ (∀ x, (watchS S c).1.kn x → x ∈ (watchS S c).1.queue)) ∧ ((watchS S c).2 = false → Fails F A) := by
  cases c with
  | nil => exact ⟨fun h => by simp [watchS] at h, fun _ => .inl hc⟩
  | cons x r =>
    have hnd : ∀ y, ¬ S.done y := fun y h => h.2 (hnew y h.1)
    cases hd : diffS x r with
    | some yr =>
      obtain ⟨y, r'⟩ := yr
      obtain ⟨hne, p, hr, hp⟩ := diffS_some hd
      have h1 : (watchS S (x :: r)).1 = { S with cls := S.cls ++ [⟨x, y, r'⟩], watch := upd (upd S.watch x (S.watch x ++ [(S.cls.length : Int)])) y (S.watch y ++ [(S.cls.length : Int)]) } := by simp [watchS, hd]
      have h2 : (watchS S (x :: r)).2 = true := by simp [watchS, hd]
      rw [h1, h2]
      refine ⟨fun _ => ?_, fun h => by cases h⟩
      have hx0 : ∀ l : Int, (∃ c ∈ F, l ∈ c) → -l ≠ 0 := fun l ⟨c, h3, h4⟩ h5 => (I.ok c h3 l h4).1 (by omega)
      have hfresh : ∀ l, (S.cls.length : Int) ∉ S.watch l := fun l h => by
        obtain ⟨j, e, h3, h4, _⟩ := I.wi l _ h
        have := (List.getElem?_eq_some_iff.1 h4).1
        omega
      have hold : ∀ l (i : Nat), (i : Int) ∈ S.watch l → (i : Int) ∈ upd (upd S.watch x (S.watch x ++ [(S.cls.length : Int)])) y (S.watch y ++ [(S.cls.length : Int)]) l := fun l i h => by
        by_cases hl : l = y
        · subst hl; rw [upd_same]; exact List.mem_append_left _ h
        · rw [upd_other _ _ hl]
          by_cases hl' : l = x
          · subst hl'; rw [upd_same]; exact List.mem_append_left _ h
          · rw [upd_other _ _ hl']; exact h
      have hwx : (S.cls.length : Int) ∈ upd (upd S.watch x (S.watch x ++ [(S.cls.length : Int)])) y (S.watch y ++ [(S.cls.length : Int)]) x := by
        rw [upd_other _ _ (Ne.symm hne), upd_same]; simp
      have hwy : (S.cls.length : Int) ∈ upd (upd S.watch x (S.watch x ++ [(S.cls.length : Int)])) y (S.watch y ++ [(S.cls.length : Int)]) y := by
        rw [upd_same]; simp
      have hxin : x ∈ x :: r := List.mem_cons_self
      have hyin : y ∈ x :: r := by rw [hr]; simp
      have hOf : Of S (x :: r) ⟨x, y, r'⟩ := ⟨Ne.symm hne, hxin, hyin, fun z hz => by rw [hr]; simp [hz], fun z hz => by
        rw [hr] at hz
        rcases List.mem_cons.1 hz with h | h
        · exact .inl h
        · rcases List.mem_append.1 h with h | h
          · exact .inl (hp z h)
          · rcases List.mem_cons.1 h with h | h
            · exact .inr (.inl h)
            · exact .inr (.inr (.inl h))⟩
      refine ⟨⟨I.len, I.zero, I.var, fun d hd' => ?_, I.ok, I.der, I.qkn, I.qnd, .inl rfl, fun i e he => ?_, fun d hd' => ?_, fun i e he => ?_, fun l i hi => ?_, fun l hl => ?_, List.nodup_nil, fun i hi => by simp at hi⟩, hnew⟩
      · rcases List.mem_append.1 hd' with h | h
        · exact I.sub d h
        · rw [List.mem_singleton.1 h]; exact hc
      · rcases (getElem?_snoc _ _ _ _).1 he with h | ⟨_, rfl⟩
        · obtain ⟨d, h3, h4⟩ := I.from_ i e h
          exact ⟨d, List.mem_append_left _ h3, h4.mono fun _ h => h⟩
        · exact ⟨x :: r, by simp, hOf.mono fun _ h => h⟩
      · rcases List.mem_append.1 hd' with h | h
        · rcases I.cover d h with ⟨i, e, h3, h4⟩ | h3
          · exact .inl ⟨i, e, (getElem?_snoc _ _ _ _).2 (.inl h3), h4.mono fun _ h => h⟩
          · exact .inr h3
        · rw [List.mem_singleton.1 h]
          exact .inl ⟨S.cls.length, _, (getElem?_snoc _ _ _ _).2 (.inr ⟨rfl, rfl⟩), hOf.mono fun _ h => h⟩
      · rcases (getElem?_snoc _ _ _ _).1 he with h | ⟨rfl, rfl⟩
        · obtain ⟨h3, h4⟩ := I.wa i e h
          obtain ⟨d, h5, h6⟩ := I.from_ i e h
          have ha := hx0 e.a ⟨d, I.sub d h5, h6.ha⟩
          have hb := hx0 e.b ⟨d, I.sub d h5, h6.hb⟩
          unfold St.waits at h3 h4 ⊢
          rw [if_neg ha] at h3 ⊢
          rw [if_neg hb] at h4 ⊢
          exact ⟨h3.imp_right fun h => ⟨h.1, hold _ _ h.2⟩, h4.imp_right fun h => ⟨h.1, hold _ _ h.2⟩⟩
        · have ha := hx0 x ⟨_, hc, hxin⟩
          have hb := hx0 y ⟨_, hc, hyin⟩
          unfold St.waits
          dsimp only
          rw [if_neg ha, if_neg hb]
          exact ⟨.inr ⟨hnd _, hwx⟩, .inr ⟨hnd _, hwy⟩⟩
      · have hcase : i ∈ S.watch l ∨ (i = (S.cls.length : Int) ∧ (l = x ∨ l = y)) := by
          dsimp only at hi
          by_cases hl : l = y
          · subst hl
            rw [upd_same] at hi
            rcases List.mem_append.1 hi with h | h
            · exact .inl h
            · exact .inr ⟨List.mem_singleton.1 h, .inr rfl⟩
          · rw [upd_other _ _ hl] at hi
            by_cases hl' : l = x
            · subst hl'
              rw [upd_same] at hi
              rcases List.mem_append.1 hi with h | h
              · exact .inl h
              · exact .inr ⟨List.mem_singleton.1 h, .inl rfl⟩
            · rw [upd_other _ _ hl'] at hi; exact .inl hi
        rcases hcase with h | ⟨h, h'⟩
        · obtain ⟨j, e, h3, h4, h5⟩ := I.wi l i h
          exact ⟨j, e, h3, (getElem?_snoc _ _ _ _).2 (.inl h4), h5⟩
        · exact ⟨S.cls.length, _, h, (getElem?_snoc _ _ _ _).2 (.inr ⟨rfl, rfl⟩), fun _ => h'⟩
      · have hn := I.wnd l (hnd _)
        have hap : ∀ l', (S.watch l' ++ [(S.cls.length : Int)]).Nodup := fun l' => List.nodup_append.2 ⟨I.wnd l' (hnd _), by simp, fun a ha b hb => by
          rw [List.mem_singleton] at hb
          rintro rfl
          exact hfresh l' (hb ▸ ha)⟩
        dsimp only
        by_cases hl' : l = y
        · subst hl'; rw [upd_same]; exact hap _
        · rw [upd_other _ _ hl']
          by_cases hl'' : l = x
          · subst hl''; rw [upd_same]; exact hap _
          · rw [upd_other _ _ hl'']; exact hn
    | none =>
      have hall := diffS_none hd
      have h1 : watchS S (x :: r) = learnS S x := by simp [watchS, hd]
      rw [h1]
      have hxin : x ∈ x :: r := List.mem_cons_self
      have hx := I.ok _ hc x hxin
      have heq : ∀ z ∈ x :: r, z = x := fun z hz => by
        rcases List.mem_cons.1 hz with h | h
        · exact h
        · exact hall z h
      obtain ⟨J, hm, ht, hf⟩ := I.learn hx.1 hx.2 (.unit hc hxin fun y hy hne => absurd (heq y hy) hne)
      refine ⟨fun h => ⟨{ J with sub := fun d hd' => ?_, from_ := fun i e he => ?_, cover := fun d hd' => ?_ }, fun y hy => ?_⟩, hf⟩
      · rcases List.mem_append.1 hd' with h | h
        · exact I.sub d h
        · rw [List.mem_singleton.1 h]; exact hc
      · obtain ⟨d, h3, h4⟩ := J.from_ i e he
        exact ⟨d, List.mem_append_left _ h3, h4⟩
      · rcases List.mem_append.1 hd' with h' | h'
        · exact J.cover d h'
        · rw [List.mem_singleton.1 h']
          exact .inr ⟨x, hxin, ht h, heq⟩
      · by_cases h0 : kat S.known x = 0
        · have hl : x.natAbs < S.known.length := by rw [I.len]; omega
          have hq : (learnS S x).1.queue = S.queue ++ [x] := by unfold learnS; rw [if_pos h0]
          rw [hq, List.mem_append, List.mem_singleton]
          rcases (kn_learn hl hx.1 h0).1 hy with h | h
          · exact .inr h
          · exact .inl (hnew y h)
        · have h3 : (learnS S x).1 = S := by unfold learnS; rw [if_neg h0]
          rw [h3] at hy ⊢
          exact hnew y hy

/-- The next literal is taken. -/
theorem Inv.take {F G : List (List Int)} {A : List Int} {n : Nat} {S : St} {x : Int} {q : List Int} (I : Inv F G A n S 0 []) (hq : S.queue = x :: q) :
    Inv F G A n { S with queue := q } x (S.watch (-x)) := by
  have hx : S.kn x := I.qkn x (by rw [hq]; simp)
  have hnd := I.qnd
  rw [hq, List.nodup_cons] at hnd
  have hd : ∀ y, St.done { S with queue := q } y ↔ S.done y ∨ y = x := fun y => by
    unfold St.done
    rw [hq]
    constructor
    · rintro ⟨h1, h2⟩
      by_cases hy : y = x
      · exact .inr hy
      · exact .inl ⟨h1, by simp only [List.mem_cons, not_or]; exact ⟨hy, h2⟩⟩
    · rintro (⟨h1, h2⟩ | rfl)
      · simp only [List.mem_cons, not_or] at h2; exact ⟨h1, h2.2⟩
      · exact ⟨hx, hnd.1⟩
  have hxn : ¬ S.done x := fun h => h.2 (by rw [hq]; simp)
  have hw : ∀ (i : Nat) l, l ≠ 0 → S.waits 0 [] i l → St.waits { S with queue := q } x (S.watch (-x)) i l := fun i l hl h => by
    unfold St.waits at h ⊢
    rw [if_neg (by omega)] at h
    by_cases hlx : -l = x
    · rw [if_pos hlx]
      have : -x = l := by omega
      rw [this]
      exact h.2
    · rw [if_neg hlx, hd]
      exact ⟨fun h' => h'.elim h.1 hlx, h.2⟩
  have ne0 : ∀ (i : Nat) e, S.cls[i]? = some e → e.a ≠ 0 ∧ e.b ≠ 0 := fun i e he => by
    obtain ⟨c, h1, h2⟩ := I.from_ i e he
    exact ⟨(I.ok c (I.sub c h1) _ h2.ha).1, (I.ok c (I.sub c h1) _ h2.hb).1⟩
  refine ⟨I.len, I.zero, I.var, I.sub, I.ok, I.der, fun y hy => I.qkn y (by rw [hq]; exact List.mem_cons_of_mem _ hy), hnd.2, .inr ((hd x).2 (.inr rfl)), fun i e he => ?_, fun c hc => ?_, fun i e he => ?_, fun l i hi => ?_, fun l hl => ?_, ?_, fun i hi => ?_⟩
  · obtain ⟨c, h1, h2⟩ := I.from_ i e he
    exact ⟨c, h1, h2.mono fun _ h => h⟩
  · rcases I.cover c hc with ⟨i, e, h1, h2⟩ | h
    · exact .inl ⟨i, e, h1, h2.mono fun _ h => h⟩
    · exact .inr h
  · obtain ⟨h1, h2⟩ := I.wa i e he
    obtain ⟨h3, h4⟩ := ne0 i e he
    exact ⟨h1.imp_right (hw i _ h3), h2.imp_right (hw i _ h4)⟩
  · obtain ⟨j, e, h1, h2, h3⟩ := I.wi l i hi
    exact ⟨j, e, h1, h2, fun h => h3 fun h' => h ((hd _).2 (.inl h'))⟩
  · exact I.wnd l fun h' => hl ((hd _).2 (.inl h'))
  · exact I.wnd (-x) (by rw [Int.neg_neg]; exact hxn)
  · obtain ⟨j, e, h1, h2, h3⟩ := I.wi (-x) i hi
    exact ⟨j, e, h1, h2, h3 (by rw [Int.neg_neg]; exact hxn)⟩

/-- All clauses have been looked at. -/
theorem Inv.looked {F G : List (List Int)} {A : List Int} {n : Nat} {S : St} {x : Int} (I : Inv F G A n S x []) : Inv F G A n S 0 [] := by
  refine { I with curk := .inl rfl, wa := fun i e he => ?_, ti := fun i hi => by simp at hi }
  obtain ⟨h1, h2⟩ := I.wa i e he
  obtain ⟨c, h3, h4⟩ := I.from_ i e he
  have ha := (I.ok c (I.sub c h3) _ h4.ha).1
  have hb := (I.ok c (I.sub c h3) _ h4.hb).1
  have hw : ∀ l, l ≠ 0 → S.waits x [] i l → S.waits 0 [] i l := fun l hl h => by
    unfold St.waits at h ⊢
    rw [if_neg (by omega)]
    by_cases hlx : -l = x
    · rw [if_pos hlx] at h; simp at h
    · rw [if_neg hlx] at h; exact h
  exact ⟨h1.imp_right (hw _ ha), h2.imp_right (hw _ hb)⟩

theorem turnC_or (c : Cl) (x : Int) : turnC c x = c ∨ turnC c x = ⟨c.b, c.a, c.rest⟩ := by
  unfold turnC; split <;> simp
theorem getElem?_setC (l : List Cl) (i j : Nat) (v e : Cl) (h : (l.set i v)[j]? = some e) : (j = i ∧ e = v) ∨ (j ≠ i ∧ l[j]? = some e) := by
  rw [List.getElem?_set] at h
  by_cases hj : i = j
  · rw [if_pos hj] at h
    split at h
    · cases h; exact .inl ⟨hj.symm, rfl⟩
    · cases h
  · rw [if_neg hj] at h; exact .inr ⟨Ne.symm hj, h⟩

/-- One clause is looked at. -/
theorem Inv.replace {F G : List (List Int)} {A : List Int} {n : Nat} {S : St} {x : Int} {i : Nat} {todo : List Int} (I : Inv F G A n S x ((i : Int) :: todo)) (hx0 : x ≠ 0) :
    ((replaceS S i (-x)).2 = true → Inv F G A n (replaceS S i (-x)).1 x todo) ∧ ((replaceS S i (-x)).2 = false → Fails F A) := by
  have hcur : S.done x := I.curk.resolve_left hx0
  obtain ⟨j, e, h1, he, hab⟩ := I.ti _ List.mem_cons_self
  obtain rfl : i = j := by exact_mod_cast h1
  have htn := I.tnd
  rw [List.nodup_cons] at htn
  have hget : S.cls.getD i default = e := by rw [List.getD_eq_getElem?_getD, he]; rfl
  have hlt : i < S.cls.length := (List.getElem?_eq_some_iff.1 he).1
  generalize ht : turnC e (-x) = t
  have hta : t.a = -x := by
    rw [← ht]; unfold turnC; split
    · assumption
    · rename_i hne
      rcases hab with h | h
      · exact absurd h.symm hne
      · exact h.symm
  have htt : t.rest = e.rest ∧ ((t.a = e.a ∧ t.b = e.b) ∨ (t.a = e.b ∧ t.b = e.a)) := by
    rw [← ht]; unfold turnC; split <;> simp
  -- the entry, turned
  have tOf : ∀ c, Of S c e → Of S c t := fun c h => by
    rcases htt with ⟨hr, ⟨ha, hb⟩ | ⟨ha, hb⟩⟩
    · exact ⟨by rw [ha, hb]; exact h.ne, by rw [ha]; exact h.ha, by rw [hb]; exact h.hb, by rw [hr]; exact h.rest, by rw [ha, hb, hr]; exact h.all⟩
    · exact ⟨by rw [ha, hb]; exact h.ne.symm, by rw [ha]; exact h.hb, by rw [hb]; exact h.ha, by rw [hr]; exact h.rest, fun z hz => by
        rw [ha, hb, hr]
        rcases h.all z hz with h | h | h
        · exact .inr (.inl h)
        · exact .inl h
        · exact .inr (.inr h)⟩
  obtain ⟨c0, hc0, hOf0⟩ := I.from_ i e he
  have tOf0 := tOf c0 hOf0
  have hknl : S.kn (-(-x)) := by rw [Int.neg_neg]; exact hcur.1
  have hnl : ¬ S.kn (-x) := fun h => kn_unique I h hknl
  have hb0 : t.b ≠ 0 ∧ t.b.natAbs ≤ n := I.ok c0 (I.sub c0 hc0) _ tOf0.hb
  have hbx : -t.b ≠ x := fun h => tOf0.ne (by rw [hta]; omega)
  have hwb : ¬ S.done (-t.b) ∧ (i : Int) ∈ S.watch t.b := by
    have := I.wa i e he
    have hw : S.waits x ((i : Int) :: todo) i t.b := by
      rcases htt with ⟨_, ⟨ha, hb⟩ | ⟨ha, hb⟩⟩
      · rw [hb]; exact this.2.resolve_left (by rw [← ha, hta]; exact hnl)
      · rw [hb]; exact this.1.resolve_left (by rw [← ha, hta]; exact hnl)
    unfold St.waits at hw
    rw [if_neg hbx] at hw
    exact hw
  -- the others wait as before
  have hwait : ∀ (S' : St) (j : Nat) l, j ≠ i → (∀ y, S'.done y → S.done y) → (∀ y z, z ∈ S.watch y → z ∈ S'.watch y) → S.waits x ((i : Int) :: todo) j l → S'.waits x todo j l := fun S' j l hj hd hw h => by
    unfold St.waits at h ⊢
    by_cases hl : -l = x
    · rw [if_pos hl] at h ⊢
      rcases List.mem_cons.1 h with h | h
      · exact absurd (by exact_mod_cast h) hj
      · exact h
    · rw [if_neg hl] at h ⊢
      exact ⟨fun h' => h.1 (hd _ h'), hw _ _ h.2⟩
  have todo_ti : ∀ (S' : St), (∀ j, j ≠ i → S'.cls[j]? = S.cls[j]?) → ∀ k ∈ todo, ∃ (j : Nat) (e : Cl), k = (j : Int) ∧ S'.cls[j]? = some e ∧ (-x = e.a ∨ -x = e.b) := fun S' hs k hk => by
    obtain ⟨j, e', h3, h4, h5⟩ := I.ti k (List.mem_cons_of_mem _ hk)
    have hj : j ≠ i := fun h => htn.1 (by rw [← h, ← h3]; exact hk)
    exact ⟨j, e', h3, by rw [hs j hj]; exact h4, h5⟩
  cases hs : scanS S.known t.b t.rest with
  | some yr =>
    obtain ⟨y, r⟩ := yr
    obtain ⟨hyo, hyf, p, hp, hpf⟩ := scanS_some hs
    have hrep : replaceS S i (-x) = ({ S with cls := S.cls.set i ⟨y, t.b, r⟩, watch := upd S.watch y (S.watch y ++ [(i : Int)]) }, true) := by
      unfold replaceS; rw [hget, ht]; simp only [hs]
    rw [hrep]
    refine ⟨fun _ => ?_, fun h => by cases h⟩
    have hyc : y ∈ c0 := tOf0.rest y (by rw [hp]; simp)
    have hy0 := I.ok c0 (I.sub c0 hc0) y hyc
    have hykn : ¬ S.kn (-y) := fun h => hyf (by have := h.2; unfold kat at this ⊢; rw [Int.natAbs_neg] at this; exact this)
    have hyx : -y ≠ x := fun h => hykn (by rw [h]; exact hcur.1)
    have hydone : ¬ S.done (-y) := fun h => hykn h.1
    have hyl : y ≠ t.a := fun h => hykn (by rw [h, hta, Int.neg_neg]; exact hcur.1)
    have hOf : ∀ c, Of S c e → Of S c ⟨y, t.b, r⟩ := fun c h => by
      have h' := tOf c h
      refine ⟨hyo, h'.rest y (by rw [hp]; simp), h'.hb, fun z hz => h'.rest z (by rw [hp]; simp [hz]), fun z hz => ?_⟩
      rcases h'.all z hz with h1 | h1 | h1 | h1
      · exact .inr (.inr (.inr (by rw [h1, hta, Int.neg_neg]; exact hcur.1)))
      · exact .inr (.inl h1)
      · rw [hp] at h1
        rcases List.mem_append.1 h1 with h2 | h2
        · rcases hpf z h2 with h3 | h3
          · exact .inr (.inl h3)
          · have hz0 := (I.ok c0 (I.sub c0 hc0) z (tOf0.rest z (by rw [hp]; simp [h2]))).1
            exact .inr (.inr (.inr ⟨by omega, by unfold kat at h3 ⊢; rw [Int.natAbs_neg]; exact h3⟩))
        · rcases List.mem_cons.1 h2 with h3 | h3
          · exact .inl h3
          · exact .inr (.inr (.inl h3))
      · exact .inr (.inr (.inr h1))
    have hnoty : (i : Int) ∉ S.watch y := fun h => by
      obtain ⟨j, e', h3, h4, h5⟩ := I.wi y _ h
      obtain rfl : i = j := by exact_mod_cast h3
      rw [he] at h4
      cases h4
      rcases htt with ⟨_, ⟨ha, hb⟩ | ⟨ha, hb⟩⟩ <;> rcases h5 hydone with h6 | h6
      · exact hyl (by rw [ha]; exact h6)
      · exact hyo (by rw [hb]; exact h6)
      · exact hyo (by rw [hb]; exact h6)
      · exact hyl (by rw [ha]; exact h6)
    have hwmem : ∀ l z, z ∈ S.watch l → z ∈ upd S.watch y (S.watch y ++ [(i : Int)]) l := fun l z h => by
      by_cases hl : l = y
      · subst hl; rw [upd_same]; exact List.mem_append_left _ h
      · rw [upd_other _ _ hl]; exact h
    refine ⟨I.len, I.zero, I.var, I.sub, I.ok, I.der, I.qkn, I.qnd, I.curk, fun j e' he' => ?_, fun c hc => ?_, fun j e' he' => ?_, fun l k hk => ?_, fun l hl => ?_, htn.2, todo_ti _ fun j hj => ?_⟩
    · rcases getElem?_setC _ _ _ _ _ he' with ⟨_, rfl⟩ | ⟨_, h⟩
      · exact ⟨c0, hc0, (hOf c0 hOf0).mono fun _ h => h⟩
      · obtain ⟨c, h3, h4⟩ := I.from_ j e' h
        exact ⟨c, h3, h4.mono fun _ h => h⟩
    · rcases I.cover c hc with ⟨j, e', h3, h4⟩ | h
      · by_cases hj : j = i
        · subst hj
          rw [he] at h3; cases h3
          exact .inl ⟨j, _, by simp [hlt], (hOf c h4).mono fun _ h => h⟩
        · exact .inl ⟨j, e', by dsimp only; rw [List.getElem?_set_ne (Ne.symm hj)]; exact h3, h4.mono fun _ h => h⟩
      · exact .inr h
    · rcases getElem?_setC _ _ _ _ _ he' with ⟨rfl, rfl⟩ | ⟨hj, h⟩
      · refine ⟨.inr ?_, .inr ?_⟩
        · unfold St.waits; rw [if_neg hyx]; exact ⟨hydone, by dsimp only; rw [upd_same]; simp⟩
        · unfold St.waits; rw [if_neg hbx]; exact ⟨hwb.1, hwmem _ _ hwb.2⟩
      · obtain ⟨h3, h4⟩ := I.wa j e' h
        exact ⟨h3.imp_right (hwait _ j _ hj (fun _ h => h) hwmem), h4.imp_right (hwait _ j _ hj (fun _ h => h) hwmem)⟩
    · have hcase : k ∈ S.watch l ∨ (k = (i : Int) ∧ l = y) := by
        dsimp only at hk
        by_cases hl : l = y
        · subst hl
          rw [upd_same] at hk
          rcases List.mem_append.1 hk with h | h
          · exact .inl h
          · exact .inr ⟨List.mem_singleton.1 h, rfl⟩
        · rw [upd_other _ _ hl] at hk; exact .inl hk
      rcases hcase with h | ⟨rfl, rfl⟩
      · obtain ⟨j, e', h3, h4, h5⟩ := I.wi l k h
        by_cases hj : j = i
        · subst hj
          rw [he] at h4; cases h4
          refine ⟨j, _, h3, by dsimp only; rw [List.getElem?_set_self hlt], fun hnd => ?_⟩
          have hlb : l = t.a ∨ l = t.b := by
            rcases htt with ⟨_, ⟨ha, hb⟩ | ⟨ha, hb⟩⟩ <;> rcases h5 hnd with h6 | h6 <;> simp [ha, hb, h6]
          rcases hlb with h6 | h6
          · exact absurd (show S.done (-l) by rw [h6, hta, Int.neg_neg]; exact hcur) hnd
          · exact .inr h6
        · exact ⟨j, e', h3, by dsimp only; rw [List.getElem?_set_ne (Ne.symm hj)]; exact h4, h5⟩
      · exact ⟨i, _, rfl, by dsimp only; rw [List.getElem?_set_self hlt], fun _ => .inl rfl⟩
    · dsimp only
      by_cases hl' : l = y
      · subst hl'
        rw [upd_same]
        refine List.nodup_append.2 ⟨I.wnd l hl, by simp, fun a ha b hb => ?_⟩
        rw [List.mem_singleton] at hb
        rintro rfl
        exact hnoty (hb ▸ ha)
      · rw [upd_other _ _ hl']; exact I.wnd l hl
    · dsimp only; rw [List.getElem?_set_ne (Ne.symm hj)]
  | none =>
    have hall := scanS_none hs
    have hrep : replaceS S i (-x) = learnS { S with cls := S.cls.set i ⟨t.a, t.b, []⟩ } t.b := by
      unfold replaceS; rw [hget, ht]; simp only [hs]
    rw [hrep]
    have hfalse : ∀ c, Of S c e → ∀ z ∈ c, z = t.a ∨ z = t.b ∨ S.kn (-z) := fun c h z hz => by
      have h' := tOf c h
      rcases h'.all z hz with h1 | h1 | h1 | h1
      · exact .inl h1
      · exact .inr (.inl h1)
      · rcases hall z h1 with h2 | h2
        · exact .inr (.inl h2)
        · have hz0 := (I.ok c0 (I.sub c0 hc0) z (tOf0.rest z h1)).1
          exact .inr (.inr ⟨by omega, by unfold kat at h2 ⊢; rw [Int.natAbs_neg]; exact h2⟩)
      · exact .inr (.inr h1)
    have hOf : ∀ c, Of S c e → Of S c ⟨t.a, t.b, []⟩ := fun c h => by
      have h' := tOf c h
      exact ⟨h'.ne, h'.ha, h'.hb, by simp, fun z hz => by
        rcases hfalse c h z hz with h1 | h1 | h1
        · exact .inl h1
        · exact .inr (.inl h1)
        · exact .inr (.inr (.inr h1))⟩
    -- the clause has been looked at, but for what is learnt
    have hder : Der F A t.b := .unit (I.sub c0 hc0) tOf0.hb fun z hz hne => by
      rcases hfalse c0 hOf0 z hz with h1 | h1 | h1
      · rw [h1, hta, Int.neg_neg]; exact I.der x hcur.1
      · exact absurd h1 hne
      · exact I.der _ h1
    generalize hS' : ({ S with cls := S.cls.set i ⟨t.a, t.b, []⟩ } : St) = S'
    have e1 : S'.known = S.known := by rw [← hS']
    have e2 : S'.queue = S.queue := by rw [← hS']
    have e3 : S'.watch = S.watch := by rw [← hS']
    have e4 : S'.cls = S.cls.set i ⟨t.a, t.b, []⟩ := by rw [← hS']
    have ek : ∀ y, S'.kn y ↔ S.kn y := fun y => by unfold St.kn; rw [e1]
    have ed : ∀ y, S'.done y ↔ S.done y := fun y => by unfold St.done; rw [ek, e2]
    have em : ∀ c e, Of S c e → Of S' c e := fun c e h => h.mono fun y h => (ek y).2 h
    -- everything but what the clause itself waits for: as if it were still to be looked at
    have J : Inv F G A n S' x ((i : Int) :: todo) := by
      refine ⟨by rw [e1]; exact I.len, by rw [e1]; exact I.zero, by rw [e1]; exact I.var, I.sub, I.ok, fun y hy => I.der y ((ek y).1 hy), fun y hy => (ek y).2 (I.qkn y (by rw [← e2]; exact hy)), by rw [e2]; exact I.qnd, .inr ((ed x).2 hcur), fun j e' he' => ?_, fun c hc => ?_, fun j e' he' => ?_, fun l k hk => ?_, fun l hl => ?_, I.tnd, fun k hk => ?_⟩
      · rw [e4] at he'
        rcases getElem?_setC _ _ _ _ _ he' with ⟨_, rfl⟩ | ⟨_, h⟩
        · exact ⟨c0, hc0, em _ _ (hOf c0 hOf0)⟩
        · obtain ⟨c, h3, h4⟩ := I.from_ j e' h
          exact ⟨c, h3, em _ _ h4⟩
      · rcases I.cover c hc with ⟨j, e', h3, h4⟩ | ⟨y, h3, h4, h5⟩
        · by_cases hj : j = i
          · subst hj
            rw [he] at h3; cases h3
            exact .inl ⟨j, _, by rw [e4]; simp [hlt], em _ _ (hOf c h4)⟩
          · exact .inl ⟨j, e', by rw [e4, List.getElem?_set_ne (Ne.symm hj)]; exact h3, em _ _ h4⟩
        · exact .inr ⟨y, h3, (ek y).2 h4, h5⟩
      · rw [e4] at he'
        unfold St.waits
        rw [ek, ek, ed, ed, e3]
        rcases getElem?_setC _ _ _ _ _ he' with ⟨rfl, rfl⟩ | ⟨hj, h⟩
        · have hax : -t.a = x := by rw [hta]; omega
          rw [if_pos hax, if_neg hbx]
          exact ⟨.inr List.mem_cons_self, .inr hwb⟩
        · exact I.wa j e' h
      · rw [e3] at hk
        rw [ed]
        obtain ⟨j, e', h3, h4, h5⟩ := I.wi l k hk
        by_cases hj : j = i
        · subst hj
          rw [he] at h4; cases h4
          refine ⟨j, _, h3, by rw [e4, List.getElem?_set_self hlt], fun hnd => ?_⟩
          rcases htt with ⟨_, ⟨ha, hb⟩ | ⟨ha, hb⟩⟩ <;> rcases h5 hnd with h6 | h6 <;> simp [ha, hb, h6]
        · exact ⟨j, e', h3, by rw [e4, List.getElem?_set_ne (Ne.symm hj)]; exact h4, h5⟩
      · rw [e3]; rw [ed] at hl; exact I.wnd l hl
      · rcases List.mem_cons.1 hk with h | h
        · exact ⟨i, ⟨t.a, t.b, []⟩, h, by rw [e4, List.getElem?_set_self hlt], .inl hta.symm⟩
        · exact todo_ti S' (fun j hj => by rw [e4, List.getElem?_set_ne (Ne.symm hj)]) k h
    obtain ⟨K, hm, hkt, hkf⟩ := J.learn hb0.1 hb0.2 hder
    refine ⟨fun htrue => ?_, hkf⟩
    have hknb := hkt htrue
    refine { K with wa := fun j e' he' => ?_, tnd := htn.2, ti := fun k hk => K.ti k (List.mem_cons_of_mem _ hk) }
    have hcl : (learnS S' t.b).1.cls = S'.cls := by unfold learnS; split <;> rfl
    have hK := K.wa j e' he'
    rw [hcl, e4] at he'
    rcases getElem?_setC _ _ _ _ _ he' with ⟨rfl, rfl⟩ | ⟨hj, h⟩
    · refine ⟨.inl hknb, ?_⟩
      have h2 := hK.2
      unfold St.waits at h2 ⊢
      dsimp only at h2 ⊢
      rw [if_neg hbx] at h2 ⊢
      exact h2
    · exact ⟨hK.1.imp_right (hwait' hj), hK.2.imp_right (hwait' hj)⟩
where
  hwait' {S' : St} {x : Int} {i j : Nat} {todo : List Int} {l : Int} (hj : j ≠ i) (h : S'.waits x ((i : Int) :: todo) j l) : S'.waits x todo j l := by
    unfold St.waits at h ⊢
    split at h
    · rw [if_pos (by assumption)]
      rcases List.mem_cons.1 h with h | h
      · exact absurd (by exact_mod_cast h) hj
      · exact h
    · rw [if_neg (by assumption)]; exact h

/-- At the end all that follows is known. -/
theorem Inv.closed {F : List (List Int)} {A : List Int} {n : Nat} {S : St} (I : Inv F F A n S 0 []) (hq : S.queue = []) (hA : ∀ x ∈ A, S.kn x) {x : Int} (h : Der F A x) : S.kn x := by
  have hd : ∀ y, S.kn y → S.done y := fun y h => ⟨h, by rw [hq]; simp⟩
  induction h with
  | assume h => exact hA _ h
  | @unit c x hc hx _ ih =>
    rcases I.cover c hc with ⟨i, e, he, hOf⟩ | ⟨y, hy, hk, hall⟩
    · obtain ⟨h1, h2⟩ := I.wa i e he
      have ha0 := (I.ok c hc _ hOf.ha).1
      have hb0 := (I.ok c hc _ hOf.hb).1
      unfold St.waits at h1 h2
      rw [if_neg (by omega)] at h1 h2
      by_cases hax : e.a = x
      · have hbx : e.b ≠ x := fun h => hOf.ne (by rw [hax, h])
        have hnb := ih e.b hOf.hb hbx
        rcases h2 with h2 | h2
        · rw [← hax]; exact h2
        · exact absurd (hd _ hnb) h2.1
      · have hna := ih e.a hOf.ha hax
        rcases h1 with h1 | h1
        · by_cases hbx : e.b = x
          · rw [← hbx]; exact h1
          · exact (kn_unique I h1 (ih e.b hOf.hb hbx)).elim
        · exact absurd (hd _ hna) h1.1
    · rw [hall x hx]
      exact hk

/-- At the beginning. -/
theorem Inv.start {F : List (List Int)} {A : List Int} {n : Nat} (hF : ∀ c ∈ F, ∀ x ∈ c, x ≠ 0 ∧ x.natAbs ≤ n) : Inv F [] A n ⟨List.replicate (n + 1) 0, [], fun _ => [], []⟩ 0 [] := by
  have hz : ∀ v : Nat, (List.replicate (n + 1) (0 : Int)).getD v 0 = 0 := fun v => by
    rw [List.getD_eq_getElem?_getD, List.getElem?_replicate]; split <;> rfl
  have hk : ∀ x, ¬ St.kn ⟨List.replicate (n + 1) 0, [], fun _ => [], []⟩ x := fun x h => h.1 (by have := h.2; unfold kat at this; rw [hz] at this; exact this.symm)
  exact ⟨by simp, hz 0, fun v => .inl (hz v), by simp, hF, fun x h => (hk x h).elim, by simp, by simp, .inl rfl, by simp, by simp, by simp, by simp, by simp, by simp, by simp⟩
