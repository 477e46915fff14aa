/-
  The reader: a line, the end; the number of lines; blanks.
-/
import Derived.Test.YtkannkalbhmlcaaDoorDimG
import Derived.Shelf.GgClosure.Gives
namespace Go.Proofs.YtkannkalbhmlcaaDoor
open Go.RowKit Go.Lib
open Go.RowKit (Below)

def ReadPost (w : World) (b : Nat) (r : Rd) (ws : List Word) (line err : Int) (e : Ending) (w' : World) : Prop :=
  Below b w w' ∧ StrKept w w' ∧ ((∃ x r', stepL 1048577 r ws = .error x ∧ x ≠ 0 ∧ e = .returned (.int .i64 x) ∧ RdAt w' b r' line err) ∨
    (∃ r', stepL 1048577 r ws = .ok r' ∧ e = .returned (.int .i64 0) ∧ RdAt w' b r' line err))
theorem stepsW_snoc {c : Nat} : ∀ (ws : List Word) (r : Rd) (w : Word), stepsW c r (ws ++ [w]) = match stepsW c r ws with | .error e => .error e | .ok r' => stepW c r' w
  | [], r, w => by
    simp only [List.nil_append, stepsW]
    cases stepW c r w <;> rfl
  | x :: t, r, w => by
    simp only [List.cons_append, stepsW]
    cases stepW c r x with
    | error e => rfl
    | ok r' => exact stepsW_snoc t r' w
theorem stepsW_stop {c : Nat} {e : Int} : ∀ (ws : List Word) (r : Rd) (k : Nat), stepsW c r (ws.take k) = .error e → stepsW c r ws = .error e
  | [], r, k, h => by simpa using h
  | x :: t, r, 0, h => by simp [stepsW] at h
  | x :: t, r, k + 1, h => by
    simp only [List.take_succ_cons, stepsW] at h ⊢
    cases hs : stepW c r x with
    | error e' => rw [hs] at h; exact h
    | ok r' => rw [hs] at h; exact stepsW_stop t r' k h
theorem stepsW_good {c : Nat} : ∀ (ws : List Word) {r r' : Rd}, Good r → r.begun = true → stepsW c r ws = .ok r' → Good r' ∧ r'.begun = true
  | [], r, r', hr, hb, h => by cases h; exact ⟨hr, hb⟩
  | w :: t, r, r', hr, hb, h => by
    unfold stepsW at h
    cases hs : stepW c r w with
    | error e => rw [hs] at h; cases h
    | ok r1 =>
      rw [hs] at h
      have h1 := stepW_good hr hb hs
      exact stepsW_good t h1.1 h1.2 h
def RunTo (r r' : Rd) (ws : List Word) (k : Nat) : Prop := stepsW 1048577 r (ws.take k) = .ok r'
theorem RunTo.next {r r' r'' : Rd} {ws : List Word} {k : Nat} (h : RunTo r r' ws k) {w : Word} (hw : ws[k]? = some w) (hs : stepW 1048577 r' w = .ok r'') : RunTo r r'' ws (k + 1) := by
  unfold RunTo at *
  rw [take_snoc _ _ _ hw, stepsW_snoc, h]; exact hs
theorem RunTo.stop {r r' : Rd} {ws : List Word} {k : Nat} (h : RunTo r r' ws k) {w : Word} (hw : ws[k]? = some w) {e : Int} (hs : stepW 1048577 r' w = .error e) : stepsW 1048577 r ws = .error e := by
  unfold RunTo at h
  refine stepsW_stop ws r (k + 1) ?_
  rw [take_snoc _ _ _ hw, stepsW_snoc, h]; exact hs

set_option maxRecDepth 100000 in
set_option maxHeartbeats 4000000 in
theorem read_any (a : Option Addr) (c : Nat) (bs : List ByteArray) (w : World) (b : Nat) (r : Rd) (line err : Int) (hm : bs.length ≤ 65536) (hl : ∀ s ∈ bs, s.size ≤ 65536) (hW : WordsAt w a bs) (hR : RdAt w b r line err) (hg : Good r) :
    Calls Tryd.prog 29 #[.pointer (some ⟨b, 0, none⟩), .slice a bs.length c] w (ReadPost w b r (bs.map W8) line err) := by
  have HR := Lib.hid hR
  have HW := Lib.hid hW
  have HG := Lib.hid hg
  have HL := Lib.hid hl
  obtain ⟨v, u, hI⟩ := hR
  have c0 := hI.c0
  have HLT := Lib.hid hI.lt
  clear hW hg hI hl
  cases hb : r.begun
  · rw [hb] at c0
    have HB := Lib.hid hb
    clear hb
    have HS : Hid (∀ ws, stepL 1048577 r ws = match headW 1048577 ws with | .error e => .error e | .ok (v, k) => .ok { r with begun := true, vars := v, ann := k }) := by
      intro ws; unfold stepL; rw [HB.out]; rfl
    have HH : Hid (∀ W, W = w → Calls Tryd.prog 44 #[.pointer (some ⟨b, 0, none⟩), .slice a bs.length c] W (HeadPost W b r (bs.map W8) line err)) := by
      rintro W rfl
      by_cases h4 : bs.length = 4
      · obtain ⟨p, q, s, t, rfl⟩ : ∃ p q s t, bs = [p, q, s, t] := by
          match bs, h4 with
          | [p, q, s, t], _ => exact ⟨p, q, s, t, rfl⟩
        exact header_any a c p q s t W b r line err (HL.out s (by simp)) (HL.out t (by simp)) HW.out HR.out
      · exact header_four a c bs W b r line err HR.out h4
    go_enter Tryd.func29, Tryd.ntmps29
    go_wp2_with fail
    refine (HH.out _ rfl).mono ?_
    rintro e w1 hp
    obtain ⟨h1, h2, ⟨x, h3, h4, rfl, h5⟩ | ⟨x, k, h3, rfl, h5⟩⟩ := hp
    · have HF : Hid (ReadPost w b r (bs.map W8) line err (.returned (.int .i64 x)) w1) := ⟨h1, h2, .inl ⟨x, r, by rw [HS.out, h3], h4, rfl, h5⟩⟩
      clear h1 h2 h3 h4 h5
      go_wp2
      go_ret
      exact HF.out
    · have HF : Hid (ReadPost w b r (bs.map W8) line err (.returned (.int .i64 0)) w1) := ⟨h1, h2, .inr ⟨_, by rw [HS.out, h3], rfl, h5⟩⟩
      clear h1 h2 h3 h5
      go_wp2
      go_ret
      exact HF.out
  · rw [hb] at c0
    have HB := Lib.hid hb
    clear hb
    have HS : Hid (∀ ws, stepL 1048577 r ws = stepsW 1048577 r ws) := by
      intro ws; unfold stepL; rw [HB.out]; rfl
    go_enter Tryd.func29, Tryd.ntmps29
    go_wp2
    go_loopw [18] (fun i wr => ∃ (k : Nat) (r' : Rd), i = .int .i64 k ∧ k ≤ bs.length ∧ Hid (RunTo r r' (bs.map W8) k) ∧ Hid (Good r' ∧ r'.begun = true) ∧ Hid (RdAt wr b r' line err) ∧ Hid (Below b w wr ∧ StrKept w wr)) (fun i _ => bs.length - (intOf i).toNat)
    case atStart => exact ⟨0, r, rfl, Nat.zero_le _, rfl, ⟨HG.out, HB.out⟩, HR.out, ⟨Below.refl _ _, StrKept.refl _⟩⟩
    case round =>
      obtain ⟨k, r', rfl, hk, HT, HGr, HRr, HF⟩ := hrel
      by_cases hlt : k < bs.length
      · obtain ⟨A, s, rfl, HSs, hc⟩ := (HW.out.kept HF.out.2.1).at hlt
        have hs := HL.out s (List.mem_of_getElem? HSs.out)
        have HWd : Hid ((bs.map W8)[k]? = some (W8 s)) := by unfold Hid; rw [List.getElem?_map, HSs.out]; rfl
        have HC := Lib.hid (word_any s wr b r' line err hs HRr.out HGr.out.1.1 (by have := HGr.out.1.2; omega) HGr.out.1.2.2.2.2.1)
        clear c0
        go_wp2_with fail
        refine HC.out.mono ?_
        rintro e w1 hp
        obtain ⟨h1, h2, ⟨x, h3, h4, rfl, h5⟩ | ⟨r2, h3, rfl, h5⟩⟩ := hp
        · have HX : Hid (ReadPost w b r (bs.map W8) line err (.returned (.int .i64 x)) w1) := ⟨HF.out.1.trans h1, HF.out.2.trans h2, .inl ⟨x, r', by rw [HS.out]; exact HT.out.stop HWd.out h3, h4, rfl, h5⟩⟩
          have e1 : (x != 0) = true := by simp [h4]
          clear h1 h2 h3 h4 h5
          go_wp2
          go_ret
          exact HX.out
        · have H1 := Lib.hid (HT.out.next HWd.out h3)
          have H2 := Lib.hid (stepW_good HGr.out.1 HGr.out.2 h3)
          have H3 := Lib.hid h5
          have H4 := Lib.hid (And.intro (HF.out.1.trans h1) (HF.out.2.trans h2))
          clear h1 h2 h3 h5
          go_wp2
          go_roundw
          case rel => exact ⟨k + 1, r2, by go_num, by omega, H1, H2, H3, H4⟩
          case measure => simp [intOf]; omega
      · obtain rfl : k = bs.length := by omega
        have HX : Hid (ReadPost w b r (bs.map W8) line err (.returned (.int .i64 0)) wr) := ⟨HF.out.1, HF.out.2, .inr ⟨r', by
          rw [HS.out]; have := HT.out; unfold RunTo at this; rwa [List.take_of_length_le (by simp)] at this, rfl, HRr.out⟩⟩
        clear c0
        go_wp2
        go_ret
        exact HX.out

def endE (r : Rd) : Int := if r.begun = false ∨ (r.cls.length : Int) < r.ann then 4 else 0
theorem end_any (w : World) (b : Nat) (r : Rd) (line err : Int) (hR : RdAt w b r line err) :
    Calls Tryd.prog 31 #[.pointer (some ⟨b, 0, none⟩)] w fun e w' => e = .returned (.int .i64 (endE r)) ∧ QuietTo w w' := by
  obtain ⟨v, u, hI⟩ := hR
  obtain ⟨av, cv, rfl⟩ := hI.v_form
  have c0 := hI.c0
  have c1 := hI.c1
  have c3 := hI.c3
  clear hI
  cases hb : r.begun
  · have HE : Hid (endE r = 4) := by unfold Hid endE; rw [hb]; simp
    rw [hb] at c0
    clear hb
    go_enter Tryd.func31, Tryd.ntmps31
    go_wp2
    go_quiet (fail)
    go_wp2
    go_ret
    exact ⟨ret_int HE.out.symm, _, rfl⟩
  · rw [hb] at c0
    by_cases h : (r.cls.length : Int) < r.ann
    · have HE : Hid (endE r = 4) := by unfold Hid endE; rw [if_pos (.inr h)]
      have hd : decide ((r.cls.length : Int) < r.ann) = true := by simp [h]
      clear hb h
      go_enter Tryd.func31, Tryd.ntmps31
      go_wp2
      go_quiet (fail)
      go_wp2
      go_ret
      exact ⟨ret_int HE.out.symm, _, rfl⟩
    · have HE : Hid (endE r = 0) := by unfold Hid endE; rw [if_neg (by rw [hb]; simp; omega)]
      have hd : decide ((r.cls.length : Int) < r.ann) = false := by simp; omega
      clear hb h
      go_enter Tryd.func31, Tryd.ntmps31
      go_wp2
      go_quiet (fail)
      go_wp2
      go_ret
      exact ⟨ret_int HE.out.symm, _, rfl⟩

def ResPost (w : World) (r : Rd) (v : Value) (line err : Int) (e : Ending) (w' : World) : Prop :=
  e = .returned (.tuple #[.agg #[.int .i64 (if err = 0 then r.vars else 0), if err = 0 then v else .slice none 0 0], .int .i64 (if err = 0 then 0 else line), .int .i64 err]) ∧ Below w.heap.size w w'
theorem result_any (w : World) (b : Nat) (r : Rd) (v u : Value) (line err : Int) (hI : RdIn w b r v u line err) :
    Calls Tryd.prog 27 #[.pointer (some ⟨b, 0, none⟩)] w (ResPost w r v line err) := by
  obtain ⟨av, cv, rfl⟩ := hI.v_form
  have c2 := hI.c2
  have c3 := hI.c3
  have c5 := hI.c5
  have c6 := hI.c6
  have hlt := hI.lt
  clear hI
  by_cases h : err = 0
  · have HF : Hid (∀ w', Below w.heap.size w w' → ResPost w r (.slice av r.cls.length cv) line err (.returned (.tuple #[.agg #[.int .i64 r.vars, .slice av r.cls.length cv], .int .i64 0, .int .i64 0])) w') := by
      intro w' hb; unfold ResPost; simp only [if_pos h]; exact ⟨by rw [h], hb⟩
    have e1 : (err != 0) = false := by simp [h]
    clear h
    go_enter Tryd.func27, Tryd.ntmps27
    go_wp2
    refine bodyPost_ret (v := .tuple #[.agg #[.int .i64 r.vars, .slice av r.cls.length cv], .int .i64 0, .int .i64 0]) (by simp [results, Tryd.results27, go_sem]) rfl ?_
    exact HF.out _ ((Below.refl _ _).alloc (Nat.le_refl _) _)
  · have HF : Hid (∀ w', Below w.heap.size w w' → ResPost w r (.slice av r.cls.length cv) line err (.returned (.tuple #[.agg #[.int .i64 0, .slice none 0 0], .int .i64 line, .int .i64 err])) w') := by
      intro w' hb; unfold ResPost; simp only [if_neg h]; exact ⟨trivial, hb⟩
    have e1 : (err != 0) = true := by simp [h]
    clear h
    go_enter Tryd.func27, Tryd.ntmps27
    go_wp2
    go_region
    all_goals
      go_wp2
      refine bodyPost_ret (v := .tuple #[.agg #[.int .i64 0, .slice none 0 0], .int .i64 line, .int .i64 err]) (by simp [results, Tryd.results27, go_sem]) rfl ?_
      exact HF.out _ (by repeat (first | exact Below.refl _ _ | refine Below.drew ?_ | refine Below.setCell ?_ (by simp) _ | refine Below.alloc ?_ (by simp) _))

theorem isBlank_gives (w : World) : PredAt Tryd.prog 43 #[] encR blankR w := fun W x _ => by
  unfold FnGives encR
  by_cases h1 : (x : Int) = 32
  · have e1 : ((x : Int) == 32) = true := by simp [h1]
    have HE : Hid (blankR x = true) := by unfold Hid blankR; have : x = 32 := by omega
                                          rw [this]; rfl
    clear h1
    go_enter Tryd.func43, Tryd.ntmps43
    go_wp2
    go_ret
    exact ⟨ret_bool HE.out.symm, 0, rfl⟩
  · have e1 : ((x : Int) == 32) = false := by simp; omega
    have HE : Hid (blankR x = ((x : Int) == 9)) := by
      unfold Hid blankR
      have h2 : (x == 32) = false := by simp; omega
      rw [h2, Bool.false_or, Bool.eq_iff_iff]; simp; omega
    clear h1
    go_enter Tryd.func43, Tryd.ntmps43
    go_wp2
    go_ret
    exact ⟨ret_bool HE.out.symm, 0, rfl⟩

theorem count_any (s : ByteArray) (w : World) (hs : s.size ≤ 65536) : Calls Tryd.prog 30 #[.string s] w fun e w' => e = .returned (.int .i64 ((linesW (W8 s)).length : Nat)) ∧ w = w' := by
  have hL := linesW_length (W8 s)
  have hcl : (W8 s).count 10 ≤ s.size := by have := List.count_le_length (a := (10 : UInt8)) (l := W8 s); rw [w8_len] at this; exact this
  obtain ⟨n, hn⟩ : ∃ n, (W8 s).count 10 = n := ⟨_, rfl⟩
  rw [hn] at hL hcl
  have HN : Hid (∀ w, Calls Tryd.prog 46 #[.string s, .string ⟨#[10]⟩] w fun e w' => e = .returned (.int .i64 n) ∧ w = w') := fun w =>
    (Tryd.strings_Count_one s 10 w).mono fun e w' ⟨he, hw⟩ => ⟨by rw [he]; unfold Lib.countByte; rw [← hn], hw.symm⟩
  obtain ⟨k, hk⟩ : ∃ k, Lib.hasSuffix (W8 s) [10] = k := ⟨_, rfl⟩
  rw [hk] at hL
  have HK : Hid (∀ w, Calls Tryd.prog 47 #[.string s, .string ⟨#[10]⟩] w fun e w' => e = .returned (.bool k) ∧ w = w') := fun w =>
    (Tryd.strings_HasSuffix s ⟨#[10]⟩ w (by omega)).mono fun e w' ⟨he, hw⟩ => ⟨by rw [he, ← hk], hw.symm⟩
  have HLL := Lib.hid hL
  clear hL hn hk
  by_cases h0 : 0 < s.size
  · obtain ⟨hl0, hl1⟩ := not_empty h0
    have hne : Hid (W8 s ≠ []) := by rw [toList_w8] at hl0; exact hl0
    cases k
    · have HE : Hid (((linesW (W8 s)).length : Int) = n + 1) := by unfold Hid; rw [HLL.out, if_pos ⟨hne.out, by simp⟩]; omega
      go_enter Tryd.func30, Tryd.ntmps30
      go_wp2_with (first | (go_at_call 46; refine (HN.out _).mono ?_; rintro e w' ⟨rfl, rfl⟩) | (go_at_call 47; refine (HK.out _).mono ?_; rintro e w' ⟨rfl, rfl⟩))
      go_ret
      exact ⟨ret_int HE.out.symm, rfl⟩
    · have HE : Hid (((linesW (W8 s)).length : Int) = n) := by unfold Hid; rw [HLL.out, if_neg (by simp)]; simp
      go_enter Tryd.func30, Tryd.ntmps30
      go_wp2_with (first | (go_at_call 46; refine (HN.out _).mono ?_; rintro e w' ⟨rfl, rfl⟩) | (go_at_call 47; refine (HK.out _).mono ?_; rintro e w' ⟨rfl, rfl⟩))
      go_ret
      exact ⟨ret_int HE.out.symm, rfl⟩
  · have h1 : s.toList = [] := by rw [toList_w8]; exact empty_of h0
    have h2 : s.toList.isEmpty = true := by simp [h1]
    have HE : Hid (((linesW (W8 s)).length : Int) = n) := by unfold Hid; rw [HLL.out, if_neg (by rw [empty_of h0]; simp)]; simp
    clear h1
    go_enter Tryd.func30, Tryd.ntmps30
    go_wp2_with (first | (go_at_call 46; refine (HN.out _).mono ?_; rintro e w' ⟨rfl, rfl⟩) | (go_at_call 47; refine (HK.out _).mono ?_; rintro e w' ⟨rfl, rfl⟩))
    go_ret
    exact ⟨ret_int HE.out.symm, rfl⟩
end Go.Proofs.YtkannkalbhmlcaaDoor
