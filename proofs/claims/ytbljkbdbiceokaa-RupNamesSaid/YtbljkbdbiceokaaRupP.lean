/-
  A range over an iterator whose body may panic.
  A range over an iterator that hands over at most one thing; the body may panic.
  demand; Chunk; demandValid.
-/
import Derived.Test.YtbljkbdbiceokaaRupK
import Derived.RangeFuncNested
import Derived.RangeFuncBound
import Derived.RangeFuncCalls
import Derived.RangeFuncLeaves
import Derived.RangeFuncFrom
import Derived.Shelf.Abstract
import Derived.Shelf.RegionOpen
import Derived.OwnWalkIn
import Derived.TacticsInMore
import Derived.LoopNIn
import Derived.Test.YtbljkbdbiceokaaCnfC
import Derived.RegionIn
import Derived.LoopIn
import Derived.WalkLawsBesides
namespace Go.Proofs.Ytbljkbdbiceokaa
open Go.RowKit Go.Lib
open Go.RowKit (Below)

/-! RupP -/
section
variable {F : Fence} {n : Nat} {P : Program}
/-- How a body that panics is left. -/
def badPost (R : Ending → World → Prop) : Exit → Act → World → Prop
  | .panic ch, a, w => a.defers = [] ∧ R (.panicked ch) w
  | _, _, _ => False
/-- A round whose body panics: the panic goes on in whoever called yield. -/
theorem roundIn_bad {l : Nat} {f : FuncId} {tmps : Array Value} {assign body : Code} {w : World} {R : Ending → World → Prop} (hF : F.fn f) (hfn : ∃ fn, P.funcs[f]? = some fn)
    (h : assign.wpIn (F.inRound l) n P (Exit.then (fun a₁ w₁ => ∃ w₂, (Instr.beginRound l).run P w₁ = .ok () w₂ ∧ body.wpIn (F.inRound l) n P (badPost R) a₁ w₂) (fun _ _ _ => False)) { tmps := tmps, defers := [] } w) :
    RoundIn F n P l f tmps assign body w R := by
  refine ⟨hF, fun c cs hr => ?_⟩
  obtain ⟨b, hb⟩ : ∃ b : Frame, b = { (default : Frame) with fn := f, kind := .normal, roundOf := some l } := ⟨_, rfl⟩
  have b1 : b.roundOf = some l := by rw [hb]
  have b2 : b.fn = f := by rw [hb]
  have hstart : Frame.round l f tmps assign body .normal = b.atR { tmps := tmps, defers := [] } [.code assign, .beginRound, .code body] := by rw [hb]; simp [Frame.round, Frame.atR]
  have hroom : (F.inRound l).room ((c :: cs).length + 1 + n) := hr
  have hFb : (F.inRound l).fn b.fn := by rw [b2]; exact hF
  obtain ⟨e, a₁, w₁, hq, hgo⟩ := h b [.beginRound, .code body] (c :: cs) b1 hFb hroom
  rw [← hstart] at hgo
  cases e with
  | normal =>
    obtain ⟨w₂, hbr, hbody⟩ := hq
    obtain ⟨e₂, a₂, w₃, hq₂, hgo₂⟩ := hbody b [] (c :: cs) b1 hFb hroom
    have hstep : StepsIn (Machine.fenced P (F.inRound l)) P (lone (b.atR a₁ [.beginRound, .code body]) (c :: cs) w₁) (lone (b.atR a₁ [.code body]) (c :: cs) w₂) :=
      .one (fenced_calm (fr := b.atR a₁ [.beginRound, .code body]) hFb hroom rfl) (stepR_beginRound b1 hbr)
    cases e₂ with
    | panic chain =>
      obtain ⟨hd, hR⟩ := hq₂
      obtain ⟨todo, hs⟩ := hgo₂
      have hlv : Frame.leaving P { b.atR a₂ todo with mode := .panicking chain } w₃ (.panicked chain) := ⟨rfl, hd, by obtain ⟨fn, hfn⟩ := hfn; exact ⟨fn, by show P.funcs[b.fn]? = _; rw [b2]; exact hfn⟩⟩
      exact ⟨.panicked chain, w₃, hR, StepsIn.trans (StepsIn.trans hgo hstep) (StepsIn.trans hs (.one (fenced_leaving (F := F.inRound l) (e := .panicked chain) hFb hroom hlv) (step_leave_panicked hlv)))⟩
    | normal => exact hq₂.elim
    | ret => exact hq₂.elim
    | exit id => exact hq₂.elim
    | goto t => exact hq₂.elim
    | outgrown => exact hq₂.elim
  | exit id => exact hq.elim
  | goto t => exact hq.elim
  | ret => exact hq.elim
  | panic ch => exact hq.elim
  | outgrown => exact hq.elim
end

/-! A walk in the frames of one function. -/
section
variable {n : Nat} {P : Program} {f0 : FuncId} {Q : Exit → Act → World → Prop} {a : Act} {w : World}
/-- The code, in whatever frame of this one function. -/
def WpAt (f0 : FuncId) (P : Program) (Q : Exit → Act → World → Prop) (a : Act) (w : World) (c : Code) : Prop :=
  ∀ (b : Frame) (k : List Item) (cs : List Frame), b.roundOf = none → b.fn = f0 → ∃ e a' w', Q e a' w' ∧ ArrivesIn (Machine.fenced P Fence.wide) P (lone (b.atR a (.code c :: k)) cs w) b k cs e a' w'
theorem calm (m : Machine) : m.fenced P Fence.wide := fenced_wide P m
theorem at_of {c : Code} (h : c.wpIn Fence.wide n P Q a w) : WpAt f0 P Q a w c := fun b k cs hr _ => h b k cs hr trivial (room_wide _)
theorem at_seq {x y : Code} (h : x.wpIn Fence.wide n P (Exit.then (fun a' w' => WpAt f0 P Q a' w' y) Q) a w) : WpAt f0 P Q a w (.seq x y) := by
  intro b k cs hr hb
  obtain ⟨e, a₁, w₁, hq, hgo⟩ := h b (.code y :: k) cs hr trivial (room_wide _)
  have hs : StepsIn (Machine.fenced P Fence.wide) P (lone (b.atR a (.code (.seq x y) :: k)) cs w) (lone (b.atR a (.code x :: .code y :: k)) cs w) := .one (calm _) stepR_seq
  cases e with
  | normal =>
    obtain ⟨e₂, a₂, w₂, hq₂, hgo₂⟩ := hq b k cs hr hb
    exact ⟨e₂, a₂, w₂, hq₂, .of_steps (StepsIn.trans hs hgo) hgo₂⟩
  | exit id => exact ⟨_, a₁, w₁, hq, .of_steps hs (.pass (x := .code y) rfl (fun _ _ => .inl (by simp)) hgo)⟩
  | goto l => exact ⟨_, a₁, w₁, hq, .of_steps hs (.pass (x := .code y) rfl (fun _ _ => .inl (by simp)) hgo)⟩
  | ret => exact ⟨_, a₁, w₁, hq, .of_steps hs (.pass (x := .code y) rfl (fun _ _ => .inl (by simp)) hgo)⟩
  | panic ch => exact ⟨_, a₁, w₁, hq, .of_steps hs (.pass (x := .code y) rfl (fun _ _ => .inl (by simp)) hgo)⟩
  | outgrown => exact ⟨_, a₁, w₁, hq, .of_steps hs (.pass (x := .code y) rfl (fun _ _ => .inl (by simp)) hgo)⟩

/-- The range over a function, in such a frame. -/
theorem at_range {g : Operand} {ps : Array Tmp} {assign body : Code}
    (h : ∃ (l : Nat) (mark : List Deferred) (w₁ : World) (d : Deferred) (w₁' : World) (f : FuncId) (args : Array Value) (w₂ : World),
      (Instr.enterLoop f0 a.tmps ps assign body none).run P w = .ok (l, mark) w₁ ∧ (resolve a.eval (rangeCall g l) 0).run P w₁ = .ok d w₁' ∧ (invoke d.target d.args).run P w₁' = .ok (.enter f args) w₂ ∧
      CallsIn Fence.wide (n - 1) P f args w₂ (rangePost Fence.wide n P l Q { a with defers := mark ++ a.defers })) :
    WpAt f0 P Q a w (.rangeFunc g ps assign body) := by
  intro b k cs hr hb
  obtain ⟨l, mark, w₁, d, w₁', f, args, w₂, he, hres, hinv, _, hcall⟩ := h
  rw [← hb, ← hr] at he
  have hin := stepR_rangeFunc (P := P) (b := b) (a := a) (k := k) (cs := cs) (w := w) he hres hinv
  obtain ⟨e, w₃, fr, hR, hs, _, hlv⟩ := hcall (b.atR { a with defers := mark ++ a.defers } (.inRangeFunc l :: k) :: cs) (room_wide _)
  cases e with
  | outgrown =>
    obtain ⟨a₀, w₀, hq⟩ := hR
    exact ⟨.outgrown, a₀, w₀, hq, .inr (Outgrown.of_steps (.one hin) hs)⟩
  | returned v =>
    obtain ⟨jump, w₄, hend, hj⟩ := hR
    have hback : StepsIn (Machine.fenced P Fence.wide) P (lone (b.atR a (.code (.rangeFunc g ps assign body) :: k)) cs w) (lone (b.atR { a with defers := mark ++ a.defers } ((jump.map Item.code).toList ++ k)) cs w₄) := by
      refine .head (calm _) hin (StepsIn.trans hs (.head (calm _) ?_ (.one (calm _) (stepR_endRangeFunc hend))))
      rw [← finish_atR_inRangeFunc l v]; exact step_leave_returned hlv
    cases jump with
    | none => exact ⟨.normal, _, w₄, hj, hback⟩
    | some c =>
      obtain ⟨e', a'', w₅, hq, hgo⟩ := hj b k cs hr trivial (room_wide _)
      exact ⟨e', a'', w₅, hq, .of_steps hback hgo⟩
  | panicked chain =>
    refine ⟨.panic chain, _, w₃, hR, .inRangeFunc l :: k, .head (calm _) hin (StepsIn.trans hs (.one (calm _) ?_))⟩
    rw [← Frame.raise_atR]; exact step_leave_panicked hlv

/-- A function whose body has been walked so. -/
theorem calls_of_at {fn : Func} {c : Code} {args : Array Value} {R : Ending → World → Prop} (hf : P.funcs[f0]? = some fn) (hb : fn.body = some c)
    (h : WpAt f0 P (bodyPostM Fence.wide n P fn R) { tmps := args ++ Array.replicate (fn.ntmps - args.size) undef, defers := [] } w c) : CallsIn Fence.wide n P f0 args w R := by
  refine ⟨trivial, fun cs hr => ?_⟩
  obtain ⟨b, hbd⟩ : ∃ b : Frame, b = { (default : Frame) with fn := f0, kind := .normal, roundOf := none } := ⟨_, rfl⟩
  have b1 : b.roundOf = none := by rw [hbd]
  have b2 : b.fn = f0 := by rw [hbd]
  have b3 : b.kind = .normal := by rw [hbd]
  have hstart : Frame.enter P f0 args .normal = b.atR { tmps := args ++ Array.replicate (fn.ntmps - args.size) undef, defers := [] } [.code c] := by rw [hbd]; simp [Frame.enter, Frame.atR, hf, hb]
  obtain ⟨e, a', w', hq, hgo⟩ := h b [] cs b1 b2
  rw [← hstart] at hgo
  have hfb : P.funcs[b.fn]? = some fn := by rw [b2]; exact hf
  cases e with
  | normal =>
    obtain ⟨e', w'', fr', hR, hs, hfn, hl⟩ := leaves_stepsInM (F := Fence.wide) a'.defers .returning w' { b.atR a' [] with mode := .returning } cs rfl rfl rfl hfb b3 trivial (room_wide _) hq
    exact ⟨e', w'', fr', hR, ComesIn.of_steps (StepsIn.trans hgo (.one (calm _) (stepR_end b1))) hs, hfn.trans b2, hl⟩
  | ret =>
    obtain ⟨todo, hs₀⟩ := hgo.1 b1
    obtain ⟨e', w'', fr', hR, hs, hfn, hl⟩ := leaves_stepsInM (F := Fence.wide) a'.defers .returning w' { b.atR a' todo with mode := .returning } cs rfl rfl rfl hfb b3 trivial (room_wide _) hq
    exact ⟨e', w'', fr', hR, ComesIn.of_steps hs₀ hs, hfn.trans b2, hl⟩
  | panic chain =>
    obtain ⟨todo, hs₀⟩ := hgo
    obtain ⟨e', w'', fr', hR, hs, hfn, hl⟩ := leaves_stepsInM (F := Fence.wide) a'.defers (.panicking chain) w' { b.atR a' todo with mode := .panicking chain } cs rfl rfl rfl hfb b3 trivial (room_wide _) hq
    exact ⟨e', w'', fr', hR, ComesIn.of_steps hs₀ hs, hfn.trans b2, hl⟩
  | exit id => exact hq.elim
  | goto l => exact hq.elim
  | outgrown => exact ⟨.outgrown, w', b, hq, hgo.resolve_left (by rw [b3]; simp), b2, trivial⟩
end

/-! RupQ -/
section
variable {n : Nat} {P : Program} {f0 : FuncId} {Q : Exit → Act → World → Prop} {a : Act} {w : World}
/-- A block that is left off its end, or by a panic. -/
theorem at_block {id : Nat} {c : Code} (h : WpAt f0 P (fun e a w => match e with | .normal => Q .normal a w | .panic ch => Q (.panic ch) a w | _ => False) a w c) : WpAt f0 P Q a w (.block id c) := by
  intro b k cs hr hb
  obtain ⟨e, a₁, w₁, hq, hgo⟩ := h b (.inBlock id :: k) cs hr hb
  have hs : StepsIn (Machine.fenced P Fence.wide) P (lone (b.atR a (.code (.block id c) :: k)) cs w) (lone (b.atR a (.code c :: .inBlock id :: k)) cs w) := .one (calm _) stepR_block
  cases e with
  | normal => exact ⟨.normal, a₁, w₁, hq, StepsIn.trans hs (StepsIn.trans hgo (.one (calm _) stepR_inBlock))⟩
  | panic ch =>
    obtain ⟨todo, h2⟩ := hgo
    exact ⟨.panic ch, a₁, w₁, hq, todo, StepsIn.trans hs h2⟩
  | exit id' => exact hq.elim
  | goto l => exact hq.elim
  | ret => exact hq.elim
  | outgrown => exact hq.elim

/-- The word of such an iterator. -/
def SeqOne (P : Program) (n : Nat) (gf : Nat) (lb args : Array Value) (more : Bool) (n₀ : Nat) (w : World) : Prop :=
  ∀ (l : Nat) (J : Bool → World → Prop) (JP : List PanicEntry → World → Prop) (W : World), Below w.heap.size w W → AbidesFrom W.heap.size J →
    (∀ W1, J false W1 → more = true → YieldAt Fence.wide (n - 1) P l args W1 fun e W' => (e = .returned (.bool true) ∧ J true W' ∧ Below n₀ W1 W') ∨ ∃ ch, e = .panicked ch ∧ JP ch W') →
    J false W → CallsIn Fence.wide n P gf (#[.func (.yield l) #[] #[]] ++ lb) W fun e W' => (∃ v, e = .returned v ∧ J more W') ∨ ∃ ch, e = .panicked ch ∧ JP ch W'
def goodOne (n₀ : Nat) (I : World → Prop) (W : World) : Exit → Act → World → Prop
  | .normal, _, W' => KeepsOthers W W' ∧ Below n₀ W W' ∧ I W'
  | _, _, _ => False
def badOne (IP : List PanicEntry → World → Prop) (W : World) : Exit → Act → World → Prop
  | .panic ch, a, W' => a.defers = [] ∧ KeepsOthers W W' ∧ IP ch W'
  | _, _, _ => False

theorem at_range_one {g : Operand} {ps : Array Tmp} {assign body : Code} {gf : Nat} {lb args : Array Value} {more : Bool} {n₀ : Nat} (hg : a.eval g = .func (.func gf) #[] lb) (eg : ∀ args w, (callFunc gf args).run P w = .ok (.enter gf args) w)
    (hseq : SeqOne P (n - 1) gf lb args more n₀ w) (hn : n₀ ≤ w.heap.size) (hps : args.size = ps.size) (hfn : ∃ fn, P.funcs[f0]? = some fn)
    (I : Bool → World → Prop) (IP : List PanicEntry → World → Prop) (hI : OwnFrom w.heap.size I) (h0 : I false w) (a₁ : Act)
    (hassign : ∀ (l : Nat) (W : World) (K : Act → World → Prop), K a₁ W → assign.wpIn (Fence.wide.inRound l) (n - 1 - 1) P (Exit.then K (fun _ _ _ => False)) { tmps := (ps.zip args).foldl (fun t (p, v) => t.setIfInBounds p v) a.tmps, defers := [] } W)
    (hbody : more = true → (∀ (l : Nat) (W : World), I false W → body.wpIn (Fence.wide.inRound l) (n - 1 - 1) P (goodOne n₀ (I true) W) a₁ W) ∨ (∀ (l : Nat) (W : World), I false W → body.wpIn (Fence.wide.inRound l) (n - 1 - 1) P (badOne IP W) a₁ W))
    (hdone : ∀ (D : Nat) (W : World), w.heap.size ≤ D → I more W → W.heap[D]? = some (.deferred (some [])) → Q .normal { a with defers := { target := .collected D, args := #[] } :: a.defers } W)
    (hpanic : ∀ (D : Nat) (ch : List PanicEntry) (W : World), w.heap.size ≤ D → IP ch W → W.heap[D]? = some (.deferred (some [])) → Q (.panic ch) { a with defers := { target := .collected D, args := #[] } :: a.defers } W) :
    WpAt f0 P Q a w (.rangeFunc g ps assign body) := by
  refine at_range (n := n) ?_
  obtain ⟨rec, hrec⟩ : ∃ rec : LoopState → Option Code → Loop, rec = fun st pe => { state := st, pending := pe, fn := f0, tmps := a.tmps, params := ps, assign, body, defers := w.heap.size } := ⟨_, rfl⟩
  obtain ⟨W1, hW1⟩ : ∃ W1, (w.alloc (.deferred (some []))).alloc (.loop (rec .ready none)) = W1 := ⟨_, rfl⟩
  have hL1 : W1.heap[w.heap.size + 1]? = some (.loop (rec .ready none)) := by
    rw [← hW1]; have := World.alloc_heap_new (w.alloc (.deferred (some []))) (.loop (rec .ready none)); rwa [World.size_alloc] at this
  have hK1 : W1.heap[w.heap.size]? = some (.deferred (some [])) := by
    rw [← hW1]; exact (Below.heap_alloc _ _ _ (by simp)).trans (World.alloc_heap_new w _)
  have hI1 : I false W1 := by rw [← hW1]; exact hI.alloc _ (hI.alloc _ h0)
  have hb1 : Below w.heap.size w W1 := by rw [← hW1]; exact ((Below.refl _ w).alloc (Nat.le_refl _) _).alloc (by simp) _
  have hsz1 : W1.heap.size = w.heap.size + 1 + 1 := by rw [← hW1]; simp
  have hKb : ∀ (W : World) (l : Nat) (o o' : Obj), w.heap.size ≤ l → W.heap[l]? = some o → Below n₀ W (W.putObj l o') := fun W l o o' hl h =>
    (Below.refl n₀ W).grown (grownBy_putObj' W l o') (by have := (Array.getElem?_eq_some_iff.1 h).1; omega) (fun k e => by cases e; omega)
  have hab : AbidesFrom W1.heap.size I := fun s A B row hs hg' hr =>
    hI s A B row hs hg' (fun r e => by obtain ⟨hB, o, ho, hw⟩ := hr r e; exact ⟨by omega, o, ho, Obj.not_cells_of_walk hw⟩)
  have hbk : ∀ (k : Nat) (o : Obj), o.isWalk = false → AbidesFrom W1.heap.size (fun (_ : Bool) W => W.heap[k]? = some o) := fun k o ho s A B row hs hg' hr =>
    (grownBy_keeps hg' (fun r e => (hr r e).2) hs ho).trans hs
  refine ⟨w.heap.size + 1, [{ target := .collected w.heap.size, args := #[] }], W1, { target := .fn (.func gf) lb, args := #[.func (.yield (w.heap.size + 1)) #[] #[]] }, W1, gf,
    #[.func (.yield (w.heap.size + 1)) #[] #[]] ++ lb, W1, ?_, ?_, ?_, ?_⟩
  · rw [← hW1, hrec]; exact run_enterLoop_outer _ _ _ _ _
  · simp only [resolve, hg]
    simp [go_sem]
  · simp [invoke, go_sem, eg]
  · have hJ : AbidesFrom W1.heap.size (fun (d : Bool) W => I d W ∧ W.heap[w.heap.size + 1]? = some (.loop (rec .ready none)) ∧ W.heap[w.heap.size]? = some (.deferred (some []))) := fun s A B row hs hg' hr =>
      ⟨hab s A B row hs.1 hg' hr, hbk _ _ rfl s A B row hs.2.1 hg' hr, hbk _ _ rfl s A B row hs.2.2 hg' hr⟩
    refine (hseq (w.heap.size + 1) _ (fun ch W => IP ch W ∧ W.heap[w.heap.size]? = some (.deferred (some []))) W1 hb1 hJ ?_ ⟨hI1, hL1, hK1⟩).mono ?_
    · rintro W ⟨hi, hl, hk⟩ hmore
      have hlt : w.heap.size + 1 < W.heap.size := (Array.getElem?_eq_some_iff.1 hl).1
      have hy := run_yield (P := P) (args := args) hl (by rw [hrec]; exact hps)
      rw [hrec] at hy
      obtain ⟨W2, hW2⟩ : ∃ W2, W.putObj (w.heap.size + 1) (.loop { rec .ready none with state := .busy }) = W2 := ⟨_, rfl⟩
      have hl2 : W2.heap[w.heap.size + 1]? = some (.loop { rec .ready none with state := .busy }) := by rw [← hW2]; exact World.putObj_heap_same hlt
      have hk2 : W2.heap[w.heap.size]? = some (.deferred (some [])) := by rw [← hW2]; exact (World.putObj_heap_other (by omega)).trans hk
      have hw2 : Below n₀ W W2 := by rw [← hW2]; exact hKb _ _ _ _ (by omega) hl
      have hi2 : I false W2 := by rw [← hW2]; exact hI.putObj _ hi (by omega) hl rfl
      have hbr : (Instr.beginRound (w.heap.size + 1)).run P W = .ok () W2 := by rw [← hW2]; exact run_beginRound hl (by rw [hrec])
      rcases hbody hmore with hgood | hbad
      · refine ⟨f0, _, assign, body, hy, roundIn_of_wpIn trivial (hassign _ W _ ⟨W2, hbr, ?_⟩)⟩
        refine wpIn_mono (hgood _ W2 hi2) ?_
        rintro e a3 W3 hp
        cases e with
        | normal =>
          obtain ⟨hk3, hkp3, hi3⟩ := hp
          have hl3 := hk3.same _ _ hl2 rfl
          have hend := run_endRound (P := P) none hl3
          rw [hrec] at hend hl3
          refine ⟨_, _, hend, .inl ⟨rfl, ⟨hI.putObj _ hi3 (by omega) hl3 rfl, ?_, (World.putObj_heap_other (by omega)).trans (hk3.same _ _ hk2 rfl)⟩, (hw2.trans hkp3).trans (hKb _ _ _ _ (by omega) hl3)⟩⟩
          rw [hrec]
          exact World.putObj_heap_same (Array.getElem?_eq_some_iff.1 hl3).1
        | ret => exact hp.elim
        | exit id => exact hp.elim
        | goto t => exact hp.elim
        | panic ch => exact hp.elim
        | outgrown => exact hp.elim
      · refine ⟨f0, _, assign, body, hy, roundIn_bad trivial hfn (hassign _ W _ ⟨W2, hbr, ?_⟩)⟩
        refine wpIn_mono (hbad _ W2 hi2) ?_
        rintro e a3 W3 hp
        cases e with
        | panic ch =>
          obtain ⟨hd, hk3, hi3⟩ := hp
          exact ⟨hd, .inr ⟨ch, rfl, hi3, hk3.same _ _ hk2 rfl⟩⟩
        | normal => exact hp.elim
        | ret => exact hp.elim
        | exit id => exact hp.elim
        | goto t => exact hp.elim
        | outgrown => exact hp.elim
    · rintro e W2 (⟨v, rfl, hi, hl, hk⟩ | ⟨ch, rfl, hi, hk⟩)
      · refine ⟨none, _, by have := run_endLoop (P := P) hl (by rw [hrec]; simp); rw [hrec] at this; exact this, hdone _ _ (Nat.le_refl _) (hI.putObj _ hi (by omega) hl rfl) ((World.putObj_heap_other (by omega)).trans hk)⟩
      · exact hpanic _ _ _ (Nat.le_refl _) hi hk
end

/-! RupR -/
attribute [local go_sem] Oper.semAt_some

/-- A panic with an error. -/
def panicE (r : Int) : List PanicEntry := [{ v := .iface 30 (.int .i64 r), recovered := false }]
theorem demand_ok (w : World) : Calls Try.prog 33 #[.int .i64 0] w fun e w' => e = .returned (.tuple #[]) ∧ w = w' := by
  go_enter Try.func33, Try.ntmps33
  go_wp2
  go_end0
  exact ⟨rfl, rfl⟩
theorem demand_bad {r : Int} (hr : r ≠ 0) (w : World) : Calls Try.prog 33 #[.int .i64 r] w fun e w' => e = .panicked (panicE r) ∧ w = w' := by
  have e1 : (r != 0) = true := by simp [hr]
  unfold panicE
  go_enter Try.func33, Try.ntmps33
  go_wp2
  exact ⟨rfl, rfl, rfl⟩
theorem chunk_any (pa : Option Addr) (L pc : Nat) (w : World) : Calls Try.prog 51 #[.slice pa L pc, .int .i64 1048576] w fun e w' =>
    e = .returned (.func (.func 62) #[] #[.pointer (some ⟨w.heap.size, 0, none⟩), .pointer (some ⟨w.heap.size + 1, 0, none⟩)]) ∧ w' = (w.alloc (.cells #[.slice pa L pc] 24)).alloc (.cells #[.int .i64 1048576] 3) := by
  have hmf : ∀ (fn : Fn) (first cap : Array Value) (w : World), (Instr.makeFunc fn first cap).run Try.prog w = .ok (.func fn first cap) w := fun _ _ _ _ => rfl
  go_enter Try.func51, Try.ntmps51
  go_wp2
  go_ret
  exact ⟨rfl, rfl⟩

theorem abidesBelow {β : Type} {B : Nat} {J : β → World → Prop} (h : AbidesFrom B J) {s : β} {W W' : World} (hs : J s W) (hb : Below W.heap.size W W') : J s W' :=
  h s W W' none hs ⟨hb.os, hb.tape, hb.output, hb.size, fun k hk _ => hb.block k hk⟩ (fun r e => by cases e)

set_option maxRecDepth 100000 in
set_option maxHeartbeats 4000000 in
theorem chunkSeq (n : Nat) (hn : 2 ≤ n) {b off L pc b1 b2 n₀ : Nat} {w : World} (hL : L ≤ 1048576) (hpc : L ≤ pc) (h1 : w.cell? ⟨b1, 0, none⟩ = some (.slice (some ⟨b, off, none⟩) L pc)) (h2 : w.cell? ⟨b2, 0, none⟩ = some (.int .i64 1048576)) (g1 : b1 < n₀) (g2 : b2 < n₀) (hn0 : n₀ ≤ w.heap.size) :
    SeqOne Try.prog n 62 #[.pointer (some ⟨b1, 0, none⟩), .pointer (some ⟨b2, 0, none⟩)] #[.slice (some ⟨b, off, none⟩) L L] (decide (0 < L)) n₀ w := by
  intro l J JP W hW hJ hY hJ0
  have c1 : W.cell? ⟨b1, 0, none⟩ = some (.slice (some ⟨b, off, none⟩) L pc) := (hW.cell (p := ⟨b1, 0, none⟩) (by show b1 < w.heap.size; omega)).trans h1
  have c2 : W.cell? ⟨b2, 0, none⟩ = some (.int .i64 1048576) := (hW.cell (p := ⟨b2, 0, none⟩) (by show b2 < w.heap.size; omega)).trans h2
  have C1 := Lib.hid c1
  have C2 := Lib.hid c2
  have HJ := Lib.hid hJ
  have HY := Lib.hid hY
  have HW : Hid (n₀ ≤ W.heap.size) := Nat.le_trans hn0 hW.size
  have hLI : (L : Int) ≤ 1048576 := by omega
  have hpI : (L : Int) ≤ (pc : Int) := by omega
  clear hJ hY h1 h2 c1 c2
  refine callsIn_of_wp Try.func62 rfl trivial ?_ rfl
  simp only [Try.ntmps62, List.size_toArray, List.length_cons, List.length_nil, Nat.reduceAdd, Nat.reduceSub, Array.replicate_succ, Array.replicate_zero, List.push_toArray, List.append_toArray, List.nil_append, List.cons_append]
  gi_wp2
  gi_loopw [4] (fun i wr => Hid (Below n₀ W wr) ∧ ((i = .int .i64 0 ∧ Hid (J false wr)) ∨ (i = .int .i64 1048576 ∧ 0 < L ∧ Hid (J true wr)))) (fun i _ => 1048577 - (intOf i).toNat)
  case atStart => exact ⟨Below.refl _ _, .inl ⟨rfl, hJ0⟩⟩
  case round =>
    obtain ⟨HB, hk⟩ := hrel
    have d1 : wr.cell? ⟨b1, 0, none⟩ = some (.slice (some ⟨b, off, none⟩) L pc) := (HB.out.cell (p := ⟨b1, 0, none⟩) g1).trans C1.out
    have d2 : wr.cell? ⟨b2, 0, none⟩ = some (.int .i64 1048576) := (HB.out.cell (p := ⟨b2, 0, none⟩) g2).trans C2.out
    rcases hk with ⟨rfl, HJk⟩ | ⟨rfl, hLp, HJk⟩
    · by_cases hLp : 0 < L
      · have hLt : (0 : Int) < (L : Int) := by omega
        have hL0 : (0 : Int) ≤ (L : Int) := by omega
        have hmin : (if (L : Int) < 1048576 then (L : Int) else 1048576) = (L : Int) := by split <;> omega
        have hd : decide (0 < L) = true := decide_eq_true hLp
        have HJ0 : Hid (J false wr.drew) := abidesBelow HJ.out HJk.out ((Below.refl _ wr).drew)
        have HBd : Hid (Below n₀ W wr.drew) := HB.out.drew
        obtain ⟨fn, tmps, assign, body, hy, hR⟩ := HY.out wr.drew HJ0.out hd
        clear hd HJk
        gi_wp2
        gi_region
        all_goals gi_wp2
        all_goals (refine ⟨fun _ => by omega, ?_⟩; refine hR.mono ?_)
        all_goals rintro e w3 (⟨rfl, hJ3, hk3⟩ | ⟨ch, rfl, hp⟩)
        · have HJ3 := Lib.hid hJ3
          have HB3 := Lib.hid (HBd.out.trans hk3)
          clear hJ3 hk3
          have e1 : (b1 : Nat) < n₀ := g1
          have d3 : w3.cell? ⟨b2, 0, none⟩ = some (.int .i64 1048576) := (HB3.out.cell (p := ⟨b2, 0, none⟩) g2).trans C2.out
          gi_wp2
          go_roundw
          case rel => exact ⟨HB3, .inr ⟨rfl, hLp, HJ3⟩⟩
          case measure => simp [intOf]
        · exact ⟨rfl, .inr ⟨ch, rfl, hp⟩⟩
      · have hLt : ¬ (0 : Int) < (L : Int) := by omega
        gi_wp2
        go_end0
        exact .inl ⟨⟨_, rfl⟩, HJk.out⟩
    · have hLt : ¬ (1048576 : Int) < (L : Int) := by omega
      gi_wp2
      go_end0
      exact .inl ⟨⟨_, rfl⟩, HJk.out⟩

set_option maxRecDepth 100000 in
set_option maxHeartbeats 4000000 in
theorem chunkSeq0 (n : Nat) {pa : Option Addr} {args : Array Value} {pc b1 b2 n₀ : Nat} {w : World} (h1 : w.cell? ⟨b1, 0, none⟩ = some (.slice pa 0 pc)) (g1 : b1 < n₀) (hn0 : n₀ ≤ w.heap.size) :
    SeqOne Try.prog n 62 #[.pointer (some ⟨b1, 0, none⟩), .pointer (some ⟨b2, 0, none⟩)] args false n₀ w := by
  intro l J JP W hW _ _ hJ0
  have c1 : W.cell? ⟨b1, 0, none⟩ = some (.slice pa 0 pc) := (hW.cell (p := ⟨b1, 0, none⟩) (by show b1 < w.heap.size; omega)).trans h1
  clear h1
  refine callsIn_of_wp Try.func62 rfl trivial ?_ rfl
  simp only [Try.ntmps62, List.size_toArray, List.length_cons, List.length_nil, Nat.reduceAdd, Nat.reduceSub, Array.replicate_succ, Array.replicate_zero, List.push_toArray, List.append_toArray, List.nil_append, List.cons_append]
  have HJ0 := Lib.hid hJ0
  clear hJ0
  gi_wp2
  gi_loopw [4] (fun i wr => ∃ k : Nat, i = .int .i64 0 ∧ k = 0 ∧ Hid (wr = W)) (fun _ _ => 0)
  case atStart => exact ⟨0, rfl, rfl, rfl⟩
  case round =>
    obtain ⟨k, rfl, _, hw⟩ := hrel
    obtain rfl := hw.out
    gi_wp2
    go_end0
    exact .inl ⟨⟨_, rfl⟩, HJ0.out⟩
/-- What demandValid finds. -/
def dv (n : Int) (F P : List (List Int)) : Int := if checkF n F ≠ 0 then checkF n F else checkF n P
theorem dv_bad {n : Int} {F P : List (List Int)} (h : checkF n F ≠ 0) : dv n F P = checkF n F := by unfold dv; rw [if_pos h]
theorem dv_ok {n : Int} {F P : List (List Int)} (h : checkF n F = 0) : dv n F P = checkF n P := by unfold dv; rw [if_neg (by rw [h]; simp)]
theorem checkF_nil {n : Int} {F : List (List Int)} (h : checkF n F = 0) : checkF n [] = 0 := by
  unfold checkF at h ⊢
  split at h
  · simp at h
  · rename_i hn
    rw [if_neg hn]
    rfl
theorem keepsOf {W W' : World} (hb : Below W.heap.size W W') : KeepsOthers W W' := ⟨hb.size, fun k _ h _ => (hb.block k (Array.getElem?_eq_some_iff.1 h).1).trans h⟩
/-- How it is left. -/
def DvPost (w : World) (n : Int) (F P : List (List Int)) (e : Ending) (w' : World) : Prop :=
  Below w.heap.size w w' ∧ ((dv n F P = 0 ∧ e = .returned (.tuple #[])) ∨ (dv n F P ≠ 0 ∧ e = .panicked (panicE (dv n F P))))

set_option maxRecDepth 100000 in
set_option maxHeartbeats 4000000 in
theorem demandValid_any (n : Int) {F P : List (List Int)} (a : Option Addr) (c : Nat) (pa : Option Addr) (pc : Nat) (w : World) (hFl : F.length ≤ maxLen) (hFA : AllLen F) (hF : RowsR .i64 w a F) (hPl : P.length ≤ 1048576) (hPc : P.length ≤ pc) (hPA : AllLen P) (hP : RowsR .i64 w pa P) :
    Calls Try.prog 31 #[.agg #[.int .i64 n, .slice a F.length c], .slice pa P.length pc] w (DvPost w n F P) := by
  have h0 := Lib.hid (box0 w (.int .i64 n) (.slice a F.length c) 26)
  have h1 := Lib.hid (box1 w (.int .i64 n) (.slice a F.length c) 26)
  have HBX := Lib.hid (boxed w (.cells #[.int .i64 n, .slice a F.length c] 26))
  have HWS : Hid ((w.alloc (.cells #[.int .i64 n, .slice a F.length c] 26)).heap.size = w.heap.size + 1) := by unfold Hid; simp
  have HF := Lib.hid (hF.alloc (.cells #[.int .i64 n, .slice a F.length c] 26))
  have HP := Lib.hid (hP.alloc (.cells #[.int .i64 n, .slice a F.length c] 26))
  have HFL := Lib.hid hFl
  have HFA := Lib.hid hFA
  have HPA := Lib.hid hPA
  have HPL := Lib.hid hPl
  have HPC := Lib.hid hPc
  clear hF hP hFl hFA hPA
  refine (callsIn_wide (n := 12)).1 ?_
  refine calls_of_at (n := 12) Try.func31 rfl ?_
  simp only [Try.ntmps31, List.size_toArray, List.length_cons, List.length_nil, Nat.reduceAdd, Nat.reduceSub, Array.replicate_succ, Array.replicate_zero, List.push_toArray, List.append_toArray, List.nil_append, List.cons_append]
  refine at_seq (n := 12) ?_
  gi_wp2
  generalize hwa : (w.alloc (.cells #[.int .i64 n, .slice a F.length c] 26)) = wa at *
  have h0' := h0.out
  have h1' := h1.out
  obtain ⟨r, hr⟩ : ∃ r, checkF n F = r := ⟨_, rfl⟩
  have HC := Lib.hid (checkF_is rfl hr a c wa HFL.out HFA.out HF.out)
  have HRF := Lib.hid hr
  clear hr
  by_cases hr0 : r = 0
  · subst hr0
    refine at_seq (n := 12) ?_
    gi_wp2
    refine ⟨trivial, ?_⟩
    refine (callsIn_wide.2 HC.out).mono ?_
    rintro e w1 ⟨rfl, hB1⟩
    have HB1 := Lib.hid hB1
    clear hB1
    gi_wp2
    refine ⟨trivial, ?_⟩
    refine (callsIn_wide.2 (demand_ok _)).mono ?_
    rintro e w2 ⟨rfl, rfl⟩
    gi_wp2
    refine at_seq (n := 12) ?_
    gi_wp2
    refine ⟨trivial, ?_⟩
    refine (callsIn_wide.2 (chunk_any _ _ _ _)).mono ?_
    rintro e w2 ⟨rfl, rfl⟩
    gi_wp2
    -- the clauses, at once
    have HBA : Hid (Below w.heap.size w w1) := HBX.out.trans (HB1.out.mono (by rw [HWS.out]; omega))
    obtain ⟨wb, hwb⟩ : ∃ wb : World, (w1.alloc (.cells #[.slice pa P.length pc] 24)).alloc (.cells #[.int .i64 1048576] 3) = wb := ⟨_, rfl⟩
    have hwbs : wb.heap.size = w1.heap.size + 1 + 1 := by rw [← hwb]; simp
    have hB2 : Below w1.heap.size w1 wb := by rw [← hwb]; exact belowAlloc (belowAlloc (Below.refl _ _) _) _
    have k1 : wb.cell? ⟨w1.heap.size, 0, none⟩ = some (.slice pa P.length pc) := by
      rw [← hwb, World.cell?_of_block (a := ⟨w1.heap.size, 0, none⟩) (Below.heap_alloc _ _ _ (by simp))]
      exact World.cell?_alloc_at _ _ _ _ rfl
    have k2 : wb.cell? ⟨w1.heap.size + 1, 0, none⟩ = some (.int .i64 1048576) := by
      rw [← hwb]; exact World.cell?_alloc_at _ _ _ _ (by simp)
    rw [hwb]
    have hBa : Below wa.heap.size wa wb := HB1.out.trans (hB2.mono HB1.out.size)
    have HBa := Lib.hid hBa
    have HBw : Hid (Below w.heap.size w wb) := HBA.out.trans (hB2.mono HBA.out.size)
    have HWB := Lib.hid hwbs
    have hdv : dv n F P = checkF n P := dv_ok HRF.out
    obtain ⟨q, hq⟩ : ∃ q, checkF n P = q := ⟨_, rfl⟩
    rw [hq] at hdv
    have HDV := Lib.hid hdv
    have HQQ := Lib.hid hq
    have hszw : w.heap.size < wb.heap.size := by have := HBa.out.size; rw [HWS.out] at this; omega
    have HSZ := Lib.hid hszw
    -- what the body finds
    have HCK : Hid (∀ (W : World) (b off : Nat), pa = some ⟨b, off, none⟩ → Below wa.heap.size wa W → Calls Try.prog 42 #[.agg #[.int .i64 n, .slice (some ⟨b, off, none⟩) P.length P.length]] W fun e w' => e = .returned (.int .i64 q) ∧ Below W.heap.size W w') := by
      intro W b off hpa hW
      refine (checkF_is rfl HQQ.out (some ⟨b, off, none⟩) P.length W (by have := HPL.out; have : maxLen = 9223372036854775807 := rfl; omega) HPA.out ?_)
      rw [← hpa]; exact HP.out.below hW
    clear hB2 hBa hwb hwbs hdv hq hszw
    refine at_block ?_
    have hOwn : OwnFrom wb.heap.size (fun (d : Bool) W => (d = true → q = 0) ∧ Below wb.heap.size wb W) := fun _ W W' row hs hg hr => ⟨hs.1, hs.2.grown hg hs.2.size (fun k e => (hr k e).1)⟩
    have hend : ∀ (D : Nat) (W : World) (u : FrameMode) (e : Ending), Below wb.heap.size wb W → W.heap[D]? = some (.deferred (some [])) → wb.heap.size ≤ D → Below w.heap.size w (W.putObj D (.deferred none)) := fun D W _ _ hb hD hle =>
      (HBw.out.trans (hb.mono (by have := HSZ.out; omega))).trans ((Below.refl _ W).grown (grownBy_putObj' W D _) (by have := (Array.getElem?_eq_some_iff.1 hD).1; have := HSZ.out; omega) (fun k e => by cases e; have := HSZ.out; omega))
    by_cases hL0 : P.length = 0
    · have HL0 := Lib.hid hL0
      clear hL0
      refine at_range_one (n := 12) (gf := 62) (lb := #[.pointer (some ⟨w1.heap.size, 0, none⟩), .pointer (some ⟨w1.heap.size + 1, 0, none⟩)]) (args := #[.slice none 0 0]) (more := false) (n₀ := wb.heap.size) rfl (enters_of Try.func62 (by kernel_rfl) rfl)
        (chunkSeq0 11 (pa := pa) (pc := pc) (by rw [k1, HL0.out]) (by rw [HWB.out]; omega) (Nat.le_refl _)) (Nat.le_refl _) rfl ⟨_, Try.func31⟩ (fun d W => (d = true → q = 0) ∧ Below wb.heap.size wb W) (fun _ _ => False) hOwn ⟨(fun h => by cases h), Below.refl _ _⟩
        { tmps := #[.agg #[.int .i64 n, .slice a F.length c], .slice pa P.length pc, .pointer (some ⟨w.heap.size, 0, none⟩), undef, .slice none 0 0, .agg #[.int .i64 n, .slice a F.length c], .int .i64 0, .tuple #[], .slice pa P.length pc, .func (.func 62) #[] #[.pointer (some ⟨w1.heap.size, 0, none⟩), .pointer (some ⟨w1.heap.size + 1, 0, none⟩)], .slice none 0 0, undef, undef, undef, undef, undef, undef], defers := [] } ?assign (fun h => by cases h) ?done (fun _ _ _ _ h => h.elim)
      case assign =>
        intro l W K hK
        gi_wp2
        exact hK
      case done =>
        intro D W hD hI hK
        have hq0 : q = 0 := by
          have h9 := HQQ.out
          rw [List.length_eq_zero_iff.1 HL0.out, checkF_nil HRF.out] at h9
          exact h9.symm
        refine ⟨by simp, .inl ⟨_, _, rfl, run_takeDeferred hK, ?_⟩⟩
        exact ⟨_, results_none rfl _ _ _, hend D W .returning (.returned (.tuple #[])) hI.2 hK hD, .inl ⟨by rw [HDV.out, hq0], rfl⟩⟩
    · obtain ⟨b, off, hpa⟩ : ∃ b off, pa = some ⟨b, off, none⟩ := by
        obtain ⟨b, off, _, _, _, h, _⟩ := HP.out.at (j := 0) (by omega)
        exact ⟨b, off, h⟩
      subst hpa
      have hLp : 0 < P.length := by omega
      refine at_range_one (n := 12) (gf := 62) (lb := #[.pointer (some ⟨w1.heap.size, 0, none⟩), .pointer (some ⟨w1.heap.size + 1, 0, none⟩)]) (args := #[.slice (some ⟨b, off, none⟩) P.length P.length]) (more := decide (0 < P.length)) (n₀ := wb.heap.size) rfl (enters_of Try.func62 (by kernel_rfl) rfl)
        (chunkSeq 11 (by omega) HPL.out HPC.out k1 k2 (by rw [HWB.out]; omega) (by rw [HWB.out]; omega) (Nat.le_refl _)) (Nat.le_refl _) rfl ⟨_, Try.func31⟩ (fun d W => (d = true → q = 0) ∧ Below wb.heap.size wb W) (fun ch W => q ≠ 0 ∧ ch = panicE q ∧ Below wb.heap.size wb W) hOwn ⟨(fun h => by cases h), Below.refl _ _⟩
        { tmps := #[.agg #[.int .i64 n, .slice a F.length c], .slice (some ⟨b, off, none⟩) P.length pc, .pointer (some ⟨w.heap.size, 0, none⟩), undef, .slice (some ⟨b, off, none⟩) P.length P.length, .agg #[.int .i64 n, .slice a F.length c], .int .i64 0, .tuple #[], .slice (some ⟨b, off, none⟩) P.length pc, .func (.func 62) #[] #[.pointer (some ⟨w1.heap.size, 0, none⟩), .pointer (some ⟨w1.heap.size + 1, 0, none⟩)], .slice (some ⟨b, off, none⟩) P.length P.length, undef, undef, undef, undef, undef, undef], defers := [] } ?assign (fun _ => ?body) ?done ?panic
      case assign =>
        intro l W K hK
        gi_wp2
        exact hK
      case body =>
        have hbd : ∀ (W : World), Below wb.heap.size wb W → W.cell? ⟨w.heap.size, 0, none⟩ = some (.int .i64 n) := fun W hW => by
          have hW2 := HBa.out.trans (hW.mono HBa.out.size)
          rw [hW2.cell (p := ⟨w.heap.size, 0, none⟩) (by show w.heap.size < wa.heap.size; rw [HWS.out]; omega)]; exact h0'
        have HBD := Lib.hid hbd
        clear hbd
        by_cases hq0 : q = 0
        · left
          rintro l W ⟨_, hW⟩
          have c0 := HBD.out W hW
          have HCW := Lib.hid (HCK.out W b off rfl (HBa.out.trans (hW.mono HBa.out.size)))
          have HW := Lib.hid hW
          clear hW
          subst hq0
          gi_wp2
          refine ⟨trivial, ?_⟩
          refine (CallsIn.inRound l (callsIn_wide.2 HCW.out)).mono ?_
          rintro e w5 ⟨rfl, hB5⟩
          have HB5 := Lib.hid hB5
          clear hB5
          gi_wp2
          refine ⟨trivial, ?_⟩
          refine (CallsIn.inRound l (callsIn_wide.2 (demand_ok _))).mono ?_
          rintro e w6 ⟨rfl, rfl⟩
          gi_wp2
          exact ⟨keepsOf HB5.out, HB5.out.mono HW.out.size, HW.out.trans (HB5.out.mono HW.out.size)⟩
        · right
          rintro l W ⟨_, hW⟩
          have c0 := HBD.out W hW
          have HCW := Lib.hid (HCK.out W b off rfl (HBa.out.trans (hW.mono HBa.out.size)))
          have HW := Lib.hid hW
          clear hW
          gi_wp2
          refine ⟨trivial, ?_⟩
          refine (CallsIn.inRound l (callsIn_wide.2 HCW.out)).mono ?_
          rintro e w5 ⟨rfl, hB5⟩
          have HB5 := Lib.hid hB5
          clear hB5
          gi_wp2
          refine ⟨trivial, ?_⟩
          refine (CallsIn.inRound l (callsIn_wide.2 (demand_bad hq0 _))).mono ?_
          rintro e w6 ⟨rfl, rfl⟩
          exact ⟨rfl, keepsOf HB5.out, hq0, rfl, HW.out.trans (HB5.out.mono HW.out.size)⟩
      case done =>
        intro D W hD hI hK
        refine ⟨by simp, .inl ⟨_, _, rfl, run_takeDeferred hK, ?_⟩⟩
        exact ⟨_, results_none rfl _ _ _, hend D W .returning (.returned (.tuple #[])) hI.2 hK hD, .inl ⟨by rw [HDV.out, hI.1 (decide_eq_true hLp)], rfl⟩⟩
      case panic =>
        rintro D ch W hD ⟨hq0, rfl, hI⟩ hK
        refine ⟨by simp, .inl ⟨_, _, rfl, run_takeDeferred hK, ?_⟩⟩
        exact ⟨hend D W .returning (.returned (.tuple #[])) hI hK hD, .inr ⟨by rw [HDV.out]; exact hq0, by rw [HDV.out]⟩⟩
  · refine at_seq (n := 12) ?_
    gi_wp2
    refine ⟨trivial, ?_⟩
    refine (callsIn_wide.2 HC.out).mono ?_
    rintro e w1 ⟨rfl, hB1⟩
    have HB1 := Lib.hid hB1
    clear hB1
    gi_wp2
    refine ⟨trivial, ?_⟩
    refine (callsIn_wide.2 (demand_bad hr0 _)).mono ?_
    rintro e w2 ⟨rfl, rfl⟩
    have hd : dv n F P = r := by rw [dv_bad (by rw [HRF.out]; exact hr0), HRF.out]
    have HFIN : Hid (DvPost w n F P (.panicked (panicE r)) w1) := ⟨HBX.out.trans (HB1.out.mono (by rw [HWS.out]; omega)), .inr ⟨by rw [hd]; exact hr0, by rw [hd]⟩⟩
    exact HFIN.out
end Go.Proofs.Ytbljkbdbiceokaa
