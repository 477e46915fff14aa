/-
  The reference's Parse: its walk.
-/
import Derived.Test.YtkannkalbhmlcaaDoorDimPm
import Derived.Test.YtkannkalbhmlcaaDoorDimT
namespace Go.Proofs.YtkannkalbhmlcaaDoor
open Go.RowKit Go.Lib
open Go.RowKit (Below)

def WLen (s : Ls) (m : Nat) : Prop := (∀ ws ∈ s.out, ∀ w ∈ ws, w.length ≤ m) ∧ (∀ w ∈ s.line, w.length ≤ m) ∧ s.word.length ≤ m
theorem endW_len' {s : Ls} {m : Nat} (h : WLen s m) : ∀ w ∈ endW s, w.length ≤ m := fun w hw => by
  unfold endW at hw
  split at hw
  · exact h.2.1 w hw
  · rcases List.mem_append.1 hw with hw | hw
    · exact h.2.1 w hw
    · rw [List.mem_singleton] at hw; subst hw; exact h.2.2
theorem WLen.more {s : Ls} {m n : Nat} (h : WLen s m) (hn : m ≤ n) : WLen s n := ⟨fun ws hws w hw => Nat.le_trans (h.1 ws hws w hw) hn, fun w hw => Nat.le_trans (h.2.1 w hw) hn, Nat.le_trans h.2.2 hn⟩
theorem feed_wlen {s : Ls} {m : Nat} (c : UInt8) (h : WLen s m) : WLen (feed s c) (m + 1) := by
  have h' := h.more (Nat.le_succ m)
  have he := endW_len' h'
  unfold feed
  split
  · refine And.intro (fun ws hws => ?_) (And.intro (fun w hw => absurd hw (List.not_mem_nil)) (Nat.zero_le _))
    rcases List.mem_append.1 hws with g | g
    · exact h'.1 ws g
    · rw [List.mem_singleton] at g; subst g; exact he
  · split
    · exact And.intro h'.1 (And.intro he (Nat.zero_le _))
    · exact And.intro h'.1 (And.intro h'.2.1 (by have := h.2.2; show (s.word ++ [c]).length ≤ m + 1; rw [List.length_append, List.length_singleton]; omega))
theorem feeds_wlen : ∀ (l : List UInt8) (s : Ls) (m : Nat), WLen s m → WLen (l.foldl feed s) (m + l.length)
  | [], s, m, h => h
  | c :: t, s, m, h => by
    rw [List.foldl_cons, List.length_cons, show m + (t.length + 1) = m + 1 + t.length by omega]
    exact feeds_wlen t _ _ (feed_wlen c h)
theorem linesW_wlen (l : List UInt8) : ∀ ws ∈ linesW l, ∀ w ∈ ws, w.length ≤ l.length := by
  have h := feeds_wlen l ls0 0 (And.intro (fun ws h => absurd h (List.not_mem_nil)) (And.intro (fun w h => absurd h (List.not_mem_nil)) (Nat.le_refl _)))
  rw [Nat.zero_add] at h
  unfold linesW fin
  split
  · intro ws hws
    rcases List.mem_append.1 hws with g | g
    · exact h.1 ws g
    · rw [List.mem_singleton] at g; subst g; exact endW_len' h
  · exact h.1
theorem drop_cons {α : Type} {l : List α} {k : Nat} {x : α} (h : l[k]? = some x) : l.drop k = x :: l.drop (k + 1) := by
  obtain ⟨h1, h2⟩ := List.getElem?_eq_some_iff.1 h
  rw [List.drop_eq_getElem_cons h1, h2]
theorem mem_words : ∀ (ls : List (List Word)) (ws : List Word), ws ∈ ls → ws.length ≤ wordsN ls
  | a :: t, ws, h => by
    have e : wordsN (a :: t) = a.length + wordsN t := by simp [wordsN]
    rcases List.mem_cons.1 h with rfl | h
    · omega
    · have := mem_words t ws h; omega
theorem num_eq (c : Nat) (l : Word) : num c l = if numK c l then some (numV c l) else none := by
  unfold numK numV; cases num c l <;> simp
theorem stepW_ann {c : Nat} {r r' : Rd} {w : Word} (h : stepW c r w = .ok r') : r'.ann = r.ann := by
  unfold stepW at h
  repeat' split at h
  all_goals first | (cases h; rfl) | (simp at h)

def HVKT (vs : List Value) (k A n c : Nat) : Prop := vs[k]? = some (.slice (some ⟨A, 0, none⟩) n c)

set_option maxRecDepth 100000 in
set_option maxHeartbeats 16000000 in
theorem refParse_any (s : ByteArray) (w : World) (hs : s.size ≤ 1048576) : Calls Tryd.prog 16 #[.string s] w (ParsePost w (parseB (W8 s))) := by
  have HPC := Lib.hid (parseC_cut 1099511627776 (by omega) (W8 s))
  by_cases hlen : 65536 < s.size
  · have HO : Hid (parseB (W8 s) = ⟨0, [], 0, 5⟩) := by unfold Hid parseB parseC; rw [if_pos (by rw [w8_len]; omega)]
    have hl : (65536 : Int) < (s.size : Int) := by omega
    have hT := Two.new w (.int .i64 0) (.slice none 0 0)
    have k0 := hT.c0
    have k1 := hT.c1
    have f0 := hT.free 0
    have f1 := hT.free 1
    have HB := Lib.hid (boxed w (.cells #[.int .i64 0, .slice none 0 0] 24))
    rw [HO.out]
    clear hlen hT HO
    go_enter Tryd.func16, Tryd.ntmps16
    go_wp2
    exact bodyPost_ret (v := .tuple #[.agg #[.int .i64 0, .slice none 0 0], .int .i64 0, .int .i64 5]) (by simp [results, Tryd.results16, go_sem, k0, k1]) rfl ⟨none, 0, rfl, .inl rfl, HB.out⟩
  have hl : (s.size : Int) ≤ 65536 := by omega
  have hT := (Two.new w (.int .i64 0) (.slice none 0 0)).alloc (.cells #[.int .i64 0, .slice none 0 0] 24)
  have hF : Two ((w.alloc (.cells #[.int .i64 0, .slice none 0 0] 24)).alloc (.cells #[.int .i64 0, .slice none 0 0] 24)) (w.heap.size + 1) (.int .i64 0) (.slice none 0 0) := by
    have := Two.new (w.alloc (.cells #[.int .i64 0, .slice none 0 0] 24)) (.int .i64 0) (.slice none 0 0); simpa using this
  have hf0 := hF.c0
  have hf1 := hF.c1
  have hz0 := hF.free 0
  have hz1 := hF.free 1
  go_enter Tryd.func16, Tryd.ntmps16
  have HB2 := Lib.hid ((boxed w (.cells #[.int .i64 0, .slice none 0 0] 24)).alloc (by simp) (.cells #[.int .i64 0, .slice none 0 0] 24))
  have HT := Lib.hid hT
  have HF := Lib.hid hF
  clear hT hF hf0 hf1 hz0 hz1
  go_wp2_with fail
  refine (lines_any' s _ (by omega)).mono ?_
  rintro e wl ⟨al, cl, vs, o, rfl, ho, hown, hrows, hBl⟩
  have hsz2 : ((w.alloc (.cells #[.int .i64 0, .slice none 0 0] 24)).alloc (.cells #[.int .i64 0, .slice none 0 0] 24)).heap.size = w.heap.size + 2 := by simp
  rw [hsz2] at hown hrows hBl
  have hwl := hBl.size
  rw [hsz2] at hwl
  have HP0 : Hid (PAt wl wl w.heap.size (w.heap.size + 1) rd0 (.slice none 0 0) (.slice none 0 0)) :=
    ⟨wl, (hBl.block _ (by omega)).trans HF.out, (hBl.block _ (by omega)).trans HT.out, fun _ _ _ => rfl, ⟨by omega, by omega⟩, Nat.le_refl _, Built.nil _ _, Below.refl _ _, Own.nil _ _⟩
  have HBl := Lib.hid (HB2.out.trans (hBl.mono (by omega)))
  have HO := Lib.hid ho
  have HOW := Lib.hid hown
  have HRW := Lib.hid hrows
  obtain ⟨ls, hls⟩ : ∃ ls, linesW (W8 s) = ls := ⟨_, rfl⟩
  have HLS := Lib.hid hls
  have hol : o.length = ls.length := by rw [← hls, ← ho, List.length_map]
  have hlb : ls.length ≤ 70000 := by
    rw [← hls, linesW_length]
    have h1 := List.count_le_length (a := (10 : UInt8)) (l := W8 s)
    rw [w8_len] at h1
    split <;> omega
  have hWS : Hid (∀ ws ∈ ls, ∀ x ∈ ws, x.length ≤ 65536) := fun ws hws x hx => by rw [← hls] at hws; have := linesW_wlen _ ws hws x hx; rw [w8_len] at this; omega
  have HPO : Hid (parseB (W8 s) = (match runL 1099511627776 1 rd0 ls with | .error (n, e) => ⟨0, [], n, e⟩ | .ok r => endR ls.length r)) := by
    unfold Hid; rw [← HPC.out, ← hls]; unfold parseC; rw [if_neg (by rw [w8_len]; omega)]; rfl
  clear ho hown hrows hBl HB2 HT HF hls hsz2 HPC
  obtain ⟨wx, hwx⟩ : ∃ wx : World, wx = wl := ⟨_, rfl⟩
  subst hwx
  rw [hol]
  have HOW2 : Hid (wx.ownsRow (w.heap.size + 2) 35 1 (.slice al ls.length cl) ls.length vs) := by have := HOW.out; rw [hol] at this; exact this
  clear HOW
  go_wp2_with fail
  go_loopw [6, 7, 8, 10] (fun u bg an i wr => ∃ (k : Nat) (r : Rd) (v : Value), k ≤ ls.length ∧ i = .int .i64 k ∧ bg = .bool r.begun ∧ an = .int .i64 r.ann ∧ Hid (runL 1099511627776 (k + 1) r (ls.drop k) = runL 1099511627776 1 rd0 ls) ∧ Hid (Good r) ∧ (r.begun = false → r = rd0 ∧ v = .slice none 0 0 ∧ u = .slice none 0 0) ∧ Hid (PAt wx wr w.heap.size (w.heap.size + 1) r v u) ∧ Hid (Below w.heap.size w wr)) (fun _ _ _ i _ => ls.length - (intOf i).toNat)
  case atStart => exact ⟨0, rd0, .slice none 0 0, Nat.zero_le _, rfl, rfl, rfl, rfl, rd0_good, fun _ => ⟨rfl, rfl, rfl⟩, HP0, HBl⟩
  case round =>
    clear HP0 HBl
    obtain ⟨k, r, v, hk, rfl, rfl, rfl, HRun, HG, hno, ⟨wc, hP⟩, HB⟩ := hrel
    have HP := Lib.hid hP
    clear hP
    by_cases hlt : k < ls.length
    · have hk1 : (k : Int) < (ls.length : Int) := by omega
      obtain ⟨bs, hbs⟩ : ∃ bs, o[k]? = some bs := ⟨_, List.getElem?_eq_getElem (by rw [hol]; exact hlt)⟩
      have hws : ls[k]? = some (bs.map W8) := by rw [← HLS.out, ← HO.out, List.getElem?_map, hbs]; rfl
      have HWW := Lib.hid (hWS.out _ (List.mem_of_getElem? hws))
      have hbb : bs.length ≤ 65536 := by
        have h1 := mem_words ls _ (List.mem_of_getElem? hws)
        have h2 := linesW_words (W8 s)
        rw [HLS.out, w8_len] at h2
        rw [List.length_map] at h1; omega
      have HD := Lib.hid (drop_cons hws)
      obtain ⟨aj, cj, hvk, hWA, _⟩ := HP.out.words (by omega) HRW.out k bs hbs
      have hOW := HP.out.outer (by omega) HOW2.out
      obtain ⟨g, cap, hform⟩ := Go.Joins.ownsRow_form hOW (by omega)
      injection hform with e1 _ e3
      subst e1 e3
      have hcell : wr.cell? ⟨g, k, none⟩ = some (.slice aj bs.length cj) := by
        have := World.ownsRow.cells hOW (g := g) rfl k _ hvk
        rw [Addr.add_lit, Nat.zero_add] at this; exact this
      have HWA := Lib.hid hWA
      have HBK := Lib.hid hbs
      have HVK := Lib.hid hvk
      clear hbs hws hvk hWA hOW
      have hnote : isNote (bs.map W8) = true → Hid (runL 1099511627776 (k + 1 + 1) r (ls.drop (k + 1)) = runL 1099511627776 1 rd0 ls) := fun hn => by
        have := HRun.out
        rw [HD.out, runL_cons, if_pos hn] at this; exact this
      by_cases hb0 : bs.length = 0
      · have HN := hnote (by rw [List.eq_nil_of_length_eq_zero hb0]; rfl)
        have e0 : ((bs.length : Int) == 0) = true := by simp [hb0]
        clear hnote hb0
        go_wp2
        go_roundw
        case rel => exact ⟨k + 1, r, v, by omega, by go_num, rfl, rfl, HN, HG, hno, ⟨wc, HP.out⟩, HB⟩
        case measure => simp [intOf]; omega
      · obtain ⟨A, x0, rfl, hx0, hcx0⟩ := HWA.out.at (j := 0) (by omega)
        have e0 : ((bs.length : Int) == 0) = false := by rw [beq_eq_false_iff_ne]; omega
        have hbl : (0 : Int) < (bs.length : Int) := by omega
        have hhead : isNote (bs.map W8) = (W8 x0 == [99]) := by
          cases bs with
          | nil => simp at hb0
          | cons y t => have := hx0.out; simp at this; subst this; rfl
        by_cases hxc : x0.toList = [99]
        · have HN := hnote (by rw [hhead, ← toList_w8, hxc]; rfl)
          have e2 : (x0.toList == [99]) = true := by rw [hxc]; rfl
          clear hnote hb0 hhead hxc hx0
          go_wp2
          go_roundw
          case rel => exact ⟨k + 1, r, v, by omega, by go_num, rfl, rfl, HN, HG, hno, ⟨wc, HP.out⟩, HB⟩
          case measure => simp [intOf]; omega
        · have e2 : (x0.toList == [99]) = false := by rw [beq_eq_false_iff_ne]; exact hxc
          have hnn : isNote (bs.map W8) = false := by rw [hhead, ← toList_w8]; exact e2
          have HStep : Hid (runL 1099511627776 1 rd0 ls = (match stepL 1099511627776 r (bs.map W8) with | .error e => .error (k + 1, e) | .ok r' => runL 1099511627776 (k + 1 + 1) r' (ls.drop (k + 1)))) := by
            have := HRun.out
            rw [HD.out, runL_cons, hnn] at this; exact this.symm
          have HErr : Hid (∀ x, stepL 1099511627776 r (bs.map W8) = .error x → parseB (W8 s) = ⟨0, [], (k : Int) + 1, x⟩) := fun x hx => by
            rw [HPO.out, HStep.out, hx]; simp
          clear hnote hnn hhead hxc hx0 HRun
          cases hbg : r.begun
          · obtain ⟨hr0, hv0, hu0⟩ := hno hbg
            have HSL : Hid (∀ E, headW 1099511627776 (bs.map W8) = E → stepL 1099511627776 r (bs.map W8) = (match E with | .error e => .error e | .ok (V, K) => .ok { r with begun := true, vars := V, ann := K })) := fun E hE => by
              unfold stepL; rw [hbg, ← hE]; rfl
            have HH : Hid (Calls Tryd.prog 33 #[.slice (some ⟨A, 0, none⟩) bs.length cj] wr (RHead wr (bs.map W8))) := by
              by_cases h4 : bs.length = 4
              · match bs, h4, HWA, HWW with
                | [p, q, x, y], _, HWA, HWW => exact refHeader_any _ cj p q x y wr (by have := HWW.out (W8 x) (by simp); rw [w8_len] at this; exact this) (by have := HWW.out (W8 y) (by simp); rw [w8_len] at this; exact this) HWA.out
              · exact refHeader_four _ cj bs wr h4
            go_wp2_with fail
            refine HH.out.mono ?_
            rintro e w2 (⟨x, hhx, hx0, rfl, rfl⟩ | ⟨V, K, hhx, rfl, rfl⟩)
            · have HE0 := Lib.hid (HErr.out x (HSL.out _ hhx))
              have e5 : (x != 0) = true := by simpa using hx0
              clear hhx
              have hr := HP.out.res
              have k0 := hr.c0
              have k1 := hr.c1
              have z0 := hr.free 0
              have z1 := hr.free 1
              have hT2 := (hr.set0 (.int .i64 0)).set1 (.slice none 0 0)
              have s0 := hT2.c0
              have s1 := hT2.c1
              have hlr := hr.lt
              have HBr := Lib.hid ((HB.out.setCell (p := ⟨w.heap.size, 0, none⟩) (Nat.le_refl _) (.int .i64 0)).setCell (p := ⟨w.heap.size, 1, none⟩) (Nat.le_refl _) (.slice none 0 0))
              clear hr hT2
              go_wp2
              exact bodyPost_ret (v := .tuple #[.agg #[.int .i64 0, .slice none 0 0], .int .i64 ((k : Int) + 1), .int .i64 x]) (by simp [results, Tryd.results16, go_sem, s0, s1]) rfl (by rw [HE0.out]; exact ⟨none, 0, rfl, .inl rfl, HBr.out⟩)
            · subst hv0 hu0
              have HP2 := HP.out
              have hT := HP2.f
              have c0 := hT.c0
              have z0 := hT.free 0
              have hbl1 := hT.lt
              have HPN : Hid (PAt wx (wr.setCell ⟨w.heap.size + 1, 0, none⟩ (.int .i64 V)) w.heap.size (w.heap.size + 1) { r with begun := true, vars := V, ann := K } (.slice none 0 0) (.slice none 0 0)) := by
                unfold Hid
                rw [hr0] at HP2 ⊢
                exact HP2.head V K rfl rfl
              have HGN := Lib.hid (headW_good HG.out hbg hhx)
              have HN : Hid (runL 1099511627776 (k + 1 + 1) { r with begun := true, vars := V, ann := K } (ls.drop (k + 1)) = runL 1099511627776 1 rd0 ls) := by unfold Hid; rw [HStep.out, HSL.out _ hhx]
              have HBN := Lib.hid (HB.out.setCell (p := ⟨w.heap.size + 1, 0, none⟩) (show w.heap.size ≤ w.heap.size + 1 by omega) (.int .i64 V))
              clear hT hhx HP2 hr0 hno
              go_wp2
              go_roundw
              case rel => exact ⟨k + 1, { r with begun := true, vars := V, ann := K }, _, by omega, by go_num, rfl, rfl, HN, HGN, (fun h => by cases h), HPN, HBN⟩
              case measure => simp [intOf]; omega
          · have HStepL : Hid (stepL 1099511627776 r (bs.map W8) = stepsW 1099511627776 r (bs.map W8)) := by unfold Hid stepL; rw [if_pos hbg]
            obtain ⟨wo, hwo⟩ : ∃ wo : World, wo = wr := ⟨_, rfl⟩
            subst hwo
            have hA0 : HVKT vs k A bs.length cj := HVK.out
            have HVK2 := Lib.hid hA0
            clear hA0 HVK hno
            go_wp2_with fail
            go_loopw [6, 14] (fun u j wr => ∃ (m : Nat) (r' : Rd) (v' : Value), m ≤ bs.length ∧ j = .int .i64 m ∧ r'.begun = true ∧ r'.ann = r.ann ∧ Hid (stepsW 1099511627776 r' ((bs.map W8).drop m) = stepsW 1099511627776 r (bs.map W8)) ∧ Hid (Good r') ∧ Hid (PAt wx wr w.heap.size (w.heap.size + 1) r' v' u) ∧ Hid (Below w.heap.size w wr)) (fun _ j _ => bs.length - (intOf j).toNat)
            case atStart => exact ⟨0, r, v, Nat.zero_le _, rfl, hbg, rfl, rfl, HG, ⟨wc, HP.out⟩, HB⟩
            case round =>
              clear HP HB hcx0 hcell
              obtain ⟨m, r', v', hm, rfl, hb', ha', HRn, HG', ⟨wd, hP⟩, HB⟩ := hrel
              have HP := Lib.hid hP
              clear hP
              have hcell : wr.cell? ⟨g, k, none⟩ = some (.slice (some ⟨A, 0, none⟩) bs.length cj) := by
                have := World.ownsRow.cells (HP.out.outer (by omega) HOW2.out) (g := g) rfl k _ HVK2.out
                rw [Addr.add_lit, Nat.zero_add] at this; exact this
              by_cases hlm : m < bs.length
              · have hm1 : (m : Int) < (bs.length : Int) := by omega
                obtain ⟨x, hx⟩ : ∃ x, bs[m]? = some x := ⟨_, List.getElem?_eq_getElem hlm⟩
                have hxm : (bs.map W8)[m]? = some (W8 x) := by rw [List.getElem?_map, hx]; rfl
                have hxs : x.size ≤ 65536 := by have := HWW.out (W8 x) (List.mem_of_getElem? hxm); rw [w8_len] at this; exact this
                have hcw : wr.cell? ⟨A, m, none⟩ = some (.string x) := by
                  obtain ⟨a2, c2, h1, h2, _⟩ := HP.out.words (by omega) HRW.out k bs HBK.out
                  have h3 : (Value.slice (some ⟨A, 0, none⟩) bs.length cj) = .slice a2 bs.length c2 := Option.some.inj (HVK2.out.symm.trans h1)
                  injection h3 with h4 _ _
                  subst h4
                  obtain ⟨A', s', h5, h6, h7⟩ := h2.at hlm
                  injection h5 with h5
                  injection h5 with h5
                  subst h5
                  have h8 := h6.out
                  rw [hx] at h8
                  injection h8 with h8
                  rw [h8]; exact h7
                have HSW : Hid (stepsW 1099511627776 r (bs.map W8) = (match stepW 1099511627776 r' (W8 x) with | .error e => .error e | .ok q => stepsW 1099511627776 q ((bs.map W8).drop (m + 1)))) := by
                  unfold Hid; rw [← HRn.out, drop_cons hxm, stepsW_cons]; rfl
                have HER : Hid (∀ z, stepW 1099511627776 r' (W8 x) = .error z → Hid (parseB (W8 s) = ⟨0, [], (k : Int) + 1, z⟩)) := fun z hz => HErr.out z (by rw [HStepL.out, HSW.out, hz])
                obtain ⟨nv, hnv⟩ : ∃ z, numV 1099511627776 (W8 x) = z := ⟨_, rfl⟩
                obtain ⟨nk, hnk⟩ : ∃ z, numK 1099511627776 (W8 x) = z := ⟨_, rfl⟩
                have HNV := Lib.hid hnv
                have HNK := Lib.hid hnk
                have HNE : Hid (num 1099511627776 (W8 x) = if nk then some nv else none) := by unfold Hid; rw [num_eq, hnv, hnk]
                have hgd := HG'.out
                have c0 := HP.out.f.c0
                have c1 := HP.out.f.c1
                have hbl1 := HP.out.f.lt
                clear hnv hnk hx hxm HRn
                obtain ⟨av, dv, hv1, _, _, _, _⟩ := (HP.out.rows.below HP.out.past).rows
                subst hv1
                obtain ⟨au, du, hu1, _, _⟩ := HP.out.cl.parts
                subst hu1
                have hv0 := hgd.1
                unfold Fine at hv0
                obtain ⟨hv00, hv01⟩ := hv0
                have hcl4 := hgd.2.2.2.2.1
                have hclm := hgd.2.2.2.1
                have han := hgd.2.2.1
                rw [ha'] at hclm han
                clear hgd
                by_cases hfull : (r'.cls.length : Int) = r.ann
                · have HE0 := HER.out 4 (by unfold stepW; rw [HNE.out]; cases nk; (· rfl); (· simp only [if_true]; rw [if_pos (by rw [ha']; exact hfull)]))
                  have e6 : ((r'.cls.length : Int) == r.ann) = true := beq_iff_eq.2 hfull
                  clear hfull
                  have hr := HP.out.res
                  have k0 := hr.c0
                  have k1 := hr.c1
                  have z0 := hr.free 0
                  have z1 := hr.free 1
                  have hT2 := (hr.set0 (.int .i64 0)).set1 (.slice none 0 0)
                  have s0 := hT2.c0
                  have s1 := hT2.c1
                  have hlr := hr.lt
                  have HBr := Lib.hid ((HB.out.setCell (p := ⟨w.heap.size, 0, none⟩) (Nat.le_refl _) (.int .i64 0)).setCell (p := ⟨w.heap.size, 1, none⟩) (Nat.le_refl _) (.slice none 0 0))
                  clear hr hT2
                  go_wp2_with fail
                  refine (refNumber_any x wr hxs).mono ?_
                  rintro e w2 ⟨he, rfl⟩
                  unfold NumPost at he
                  rw [HNV.out, HNK.out] at he
                  subst he
                  go_wp2
                  exact bodyPost_ret (v := .tuple #[.agg #[.int .i64 0, .slice none 0 0], .int .i64 ((k : Int) + 1), .int .i64 4]) (by simp [results, Tryd.results16, go_sem, s0, s1]) rfl (by rw [HE0.out]; exact ⟨none, 0, rfl, .inl rfl, HBr.out⟩)
                have e6 : ((r'.cls.length : Int) == r.ann) = false := beq_eq_false_iff_ne.2 hfull
                cases nk
                · have HE0 := HER.out 4 (by unfold stepW; rw [HNE.out]; rfl)
                  clear hfull
                  have hr := HP.out.res
                  have k0 := hr.c0
                  have k1 := hr.c1
                  have z0 := hr.free 0
                  have z1 := hr.free 1
                  have hT2 := (hr.set0 (.int .i64 0)).set1 (.slice none 0 0)
                  have s0 := hT2.c0
                  have s1 := hT2.c1
                  have hlr := hr.lt
                  have HBr := Lib.hid ((HB.out.setCell (p := ⟨w.heap.size, 0, none⟩) (Nat.le_refl _) (.int .i64 0)).setCell (p := ⟨w.heap.size, 1, none⟩) (Nat.le_refl _) (.slice none 0 0))
                  clear hr hT2
                  go_wp2_with fail
                  refine (refNumber_any x wr hxs).mono ?_
                  rintro e w2 ⟨he, rfl⟩
                  unfold NumPost at he
                  rw [HNV.out, HNK.out] at he
                  subst he
                  go_wp2
                  exact bodyPost_ret (v := .tuple #[.agg #[.int .i64 0, .slice none 0 0], .int .i64 ((k : Int) + 1), .int .i64 4]) (by simp [results, Tryd.results16, go_sem, s0, s1]) rfl (by rw [HE0.out]; exact ⟨none, 0, rfl, .inl rfl, HBr.out⟩)
                · by_cases hr1 : r'.vars < nv
                  · have HE0 := HER.out 3 (by unfold stepW; rw [HNE.out]; simp only [if_true]; rw [if_neg (by rw [ha']; exact hfull), if_neg (by omega), if_pos (.inl hr1)])
                    clear hfull
                    have hr := HP.out.res
                    have k0 := hr.c0
                    have k1 := hr.c1
                    have z0 := hr.free 0
                    have z1 := hr.free 1
                    have hT2 := (hr.set0 (.int .i64 0)).set1 (.slice none 0 0)
                    have s0 := hT2.c0
                    have s1 := hT2.c1
                    have hlr := hr.lt
                    have HBr := Lib.hid ((HB.out.setCell (p := ⟨w.heap.size, 0, none⟩) (Nat.le_refl _) (.int .i64 0)).setCell (p := ⟨w.heap.size, 1, none⟩) (Nat.le_refl _) (.slice none 0 0))
                    clear hr hT2
                    go_wp2_with fail
                    refine (refNumber_any x wr hxs).mono ?_
                    rintro e w2 ⟨he, rfl⟩
                    unfold NumPost at he
                    rw [HNV.out, HNK.out] at he
                    subst he
                    go_wp2
                    exact bodyPost_ret (v := .tuple #[.agg #[.int .i64 0, .slice none 0 0], .int .i64 ((k : Int) + 1), .int .i64 3]) (by simp [results, Tryd.results16, go_sem, s0, s1]) rfl (by rw [HE0.out]; exact ⟨none, 0, rfl, .inl rfl, HBr.out⟩)
                  by_cases hr2 : nv < -r'.vars
                  · have HE0 := HER.out 3 (by unfold stepW; rw [HNE.out]; simp only [if_true]; rw [if_neg (by rw [ha']; exact hfull), if_neg (by omega), if_pos (.inr hr2)])
                    have hr1' : nv ≤ r'.vars := by omega
                    clear hfull hr1
                    have hr := HP.out.res
                    have k0 := hr.c0
                    have k1 := hr.c1
                    have z0 := hr.free 0
                    have z1 := hr.free 1
                    have hT2 := (hr.set0 (.int .i64 0)).set1 (.slice none 0 0)
                    have s0 := hT2.c0
                    have s1 := hT2.c1
                    have hlr := hr.lt
                    have HBr := Lib.hid ((HB.out.setCell (p := ⟨w.heap.size, 0, none⟩) (Nat.le_refl _) (.int .i64 0)).setCell (p := ⟨w.heap.size, 1, none⟩) (Nat.le_refl _) (.slice none 0 0))
                    clear hr hT2
                    go_wp2_with fail
                    refine (refNumber_any x wr hxs).mono ?_
                    rintro e w2 ⟨he, rfl⟩
                    unfold NumPost at he
                    rw [HNV.out, HNK.out] at he
                    subst he
                    go_wp2
                    exact bodyPost_ret (v := .tuple #[.agg #[.int .i64 0, .slice none 0 0], .int .i64 ((k : Int) + 1), .int .i64 3]) (by simp [results, Tryd.results16, go_sem, s0, s1]) rfl (by rw [HE0.out]; exact ⟨none, 0, rfl, .inl rfl, HBr.out⟩)
                  have hr1' : nv ≤ r'.vars := by omega
                  have hr2' : -r'.vars ≤ nv := by omega
                  by_cases hnz : nv = 0
                  · have hok : stepW 1099511627776 r' (W8 x) = .ok { r' with cls := r'.cls ++ [r'.cl], cl := [] } := by
                      unfold stepW; rw [HNE.out]; simp only [if_true]; rw [if_neg (by rw [ha']; exact hfull), if_pos hnz]
                    have HRN := Lib.hid ((HSW.out.trans (by rw [hok])).symm)
                    have HGN := Lib.hid (stepW_good HG'.out hb' hok).1
                    have e7 : (nv == 0) = true := beq_iff_eq.2 hnz
                    obtain ⟨q0, hq, hqz, hq1, hq2⟩ := info_parts Tryd.info34
                    obtain ⟨vs1, h1, h2⟩ := HP.out.rows.below HP.out.past
                    have H1 := Lib.hid h1
                    have HX := fun ob v2 w3 => Lib.hid (PIn.close (w1 := w3) (v' := v2) (ob := ob) HP.out h1 h2)
                    have hwb := HB.out.size
                    have hwxs := HP.out.size
                    clear hok hfull hnz h1 h2 hr1 hr2
                    go_wp2_with fail
                    refine (refNumber_any x wr hxs).mono ?_
                    rintro e w2 ⟨he, rfl⟩
                    unfold NumPost at he
                    rw [HNV.out, HNK.out] at he
                    subst he
                    go_wp2_with (at_builtin; refine wpList_append_own_at _ rfl _ _ 22 rfl wx.heap.size 34 q0 (.slice none 0 0) 1 24 Tryd.underlying22 hq hqz hq1 hq2 rfl (by decide) _ _ _ rfl (World.ownsRow.alloc H1.out _) ⟨wr.heap.size, 0, none⟩ 1 1 [.slice au r'.cl.length du] rfl rfl (one_new rfl) one_slice ?d3 ?d4 ?d5 ?_)
                    case d3 => unfold maxLen; omega
                    case d4 => omega
                    case d5 => first | omega | (simp; omega)
                    intro v2 w3 hown3 hgrow3 _ hat3
                    obtain ⟨g3, cap3, rfl⟩ := Go.Joins.ownsRow_form hown3 (by omega)
                    obtain ⟨hT3, hN3⟩ := (HX _ _ _).out hgrow3 (by simpa using hat3) hown3
                    have HN3 := Lib.hid hN3
                    have t1 := hT3.c1
                    have u1 := hT3.free 1
                    have HB3 := Lib.hid ((((HB.out.alloc hwb _).grown hgrow3 (by simp; omega) (fun j e => by have := (World.ownsRow.lt H1.out j e).1; omega))).setCell (p := ⟨w.heap.size + 1, 1, none⟩) (show w.heap.size ≤ w.heap.size + 1 by omega) (.slice (some ⟨g3, 0, none⟩) (r'.cls.length + 1) cap3))
                    clear hown3 hgrow3 hat3 hT3 hN3 HX H1 c0 c1 HP HB
                    go_wp2
                    go_roundw
                    case rel => exact ⟨m + 1, { r' with cls := r'.cls ++ [r'.cl], cl := [] }, _, by omega, by go_num, hb', ha', HRN, HGN, HN3, HB3⟩
                    case measure => simp [intOf]; omega
                  have e7 : (nv == 0) = false := beq_eq_false_iff_ne.2 hnz
                  by_cases hc4 : r'.cl.length = 4096
                  · have HE0 := HER.out 5 (by unfold stepW; rw [HNE.out]; simp only [if_true]; rw [if_neg (by rw [ha']; exact hfull), if_neg hnz, if_neg (by omega), if_pos hc4])
                    have e8 : ((r'.cl.length : Int) == 4096) = true := by rw [beq_iff_eq]; omega
                    clear hfull hnz hr1 hr2 hc4
                    have hr := HP.out.res
                    have k0 := hr.c0
                    have k1 := hr.c1
                    have z0 := hr.free 0
                    have z1 := hr.free 1
                    have hT2 := (hr.set0 (.int .i64 0)).set1 (.slice none 0 0)
                    have s0 := hT2.c0
                    have s1 := hT2.c1
                    have hlr := hr.lt
                    have HBr := Lib.hid ((HB.out.setCell (p := ⟨w.heap.size, 0, none⟩) (Nat.le_refl _) (.int .i64 0)).setCell (p := ⟨w.heap.size, 1, none⟩) (Nat.le_refl _) (.slice none 0 0))
                    clear hr hT2
                    go_wp2_with fail
                    refine (refNumber_any x wr hxs).mono ?_
                    rintro e w2 ⟨he, rfl⟩
                    unfold NumPost at he
                    rw [HNV.out, HNK.out] at he
                    subst he
                    go_wp2
                    exact bodyPost_ret (v := .tuple #[.agg #[.int .i64 0, .slice none 0 0], .int .i64 ((k : Int) + 1), .int .i64 5]) (by simp [results, Tryd.results16, go_sem, s0, s1]) rfl (by rw [HE0.out]; exact ⟨none, 0, rfl, .inl rfl, HBr.out⟩)
                  · have hok : stepW 1099511627776 r' (W8 x) = .ok { r' with cl := r'.cl ++ [nv] } := by
                      unfold stepW; rw [HNE.out]; simp only [if_true]; rw [if_neg (by rw [ha']; exact hfull), if_neg hnz, if_neg (by omega), if_neg hc4]
                    have e8 : ((r'.cl.length : Int) == 4096) = false := by rw [beq_eq_false_iff_ne]; omega
                    have HRN := Lib.hid ((HSW.out.trans (by rw [hok])).symm)
                    have HGN := Lib.hid (stepW_good HG'.out hb' hok).1
                    obtain ⟨q0, hq, hqz, hq1, hq2⟩ := info_parts Tryd.info3
                    have H1 := Lib.hid HP.out.cl
                    have HX := fun ob u2 w3 => Lib.hid (PIn.push (w1 := w3) (u' := u2) (x := nv) (ob := ob) HP.out)
                    have hwb := HB.out.size
                    have hwds := HP.out.past.size
                    have hwxd := HP.out.sizes
                    clear hok hfull hnz hr1 hr2
                    go_wp2_with fail
                    refine (refNumber_any x wr hxs).mono ?_
                    rintro e w2 ⟨he, rfl⟩
                    unfold NumPost at he
                    rw [HNV.out, HNK.out] at he
                    subst he
                    go_wp2_with (at_builtin; refine wpList_append_own_at _ rfl _ _ 34 rfl wd.heap.size 3 q0 (.int .i64 0) 1 8 Tryd.underlying34 hq hqz hq1 hq2 rfl (by decide) _ _ _ rfl (World.ownsRow.alloc H1.out _) ⟨wr.heap.size, 0, none⟩ 1 1 [.int .i64 nv] rfl rfl (one_new rfl) one_int ?d3 ?d4 ?d5 ?_)
                    case d3 => unfold maxLen; omega
                    case d4 => omega
                    case d5 => first | omega | (simp; omega)
                    intro u2 w3 hown3 hgrow3 _ hat3
                    obtain ⟨g3, cap3, rfl⟩ := Go.Joins.ownsRow_form hown3 (by omega)
                    have HN3 := Lib.hid ((HX _ _ _).out hgrow3 hown3)
                    have HB3 := Lib.hid ((HB.out.alloc hwb _).grown hgrow3 (by simp; omega) (fun j e => by have := (World.ownsRow.lt H1.out j e).1; omega))
                    clear hown3 hgrow3 hat3 HX H1 c0 c1 HP HB
                    go_wp2
                    go_roundw
                    case rel => exact ⟨m + 1, { r' with cl := r'.cl ++ [nv] }, _, by omega, by go_num, hb', ha', HRN, HGN, HN3, HB3⟩
                    case measure => simp [intOf]; omega
              · have hm1 : (bs.length : Int) ≤ (m : Int) := by omega
                have hfin : stepsW 1099511627776 r (bs.map W8) = .ok r' := by
                  rw [← HRn.out, List.drop_of_length_le (by rw [List.length_map]; omega)]; rfl
                have HN : Hid (runL 1099511627776 (k + 1 + 1) r' (ls.drop (k + 1)) = runL 1099511627776 1 rd0 ls) := by unfold Hid; rw [HStep.out, HStepL.out, hfin]
                clear hfin HRn
                go_wp2
                go_roundw
                case rel => exact ⟨k + 1, r', v', by omega, by go_num, by rw [hb'], by rw [ha'], HN, HG', (fun h => by rw [hb'] at h; cases h), ⟨wd, HP.out⟩, HB⟩
                case measure => simp [intOf]; omega
    · have hk1 : (ls.length : Int) ≤ (k : Int) := by omega
      have hke : k = ls.length := by omega
      have hrun : runL 1099511627776 1 rd0 ls = .ok r := by
        rw [← HRun.out, hke, List.drop_length]; rfl
      have HOut : Hid (parseB (W8 s) = endR ls.length r) := by unfold Hid; rw [HPO.out, hrun]
      have hg := HG.out
      have c0 := HP.out.f.c0
      have c1 := HP.out.f.c1
      have hf1 := HP.out.f.lt
      have hr := HP.out.res
      have k0 := hr.c0
      have k1 := hr.c1
      have z0 := hr.free 0
      have z1 := hr.free 1
      obtain ⟨av, dv, hv1, _, hv3, hv4, hv2⟩ := (HP.out.rows.below HP.out.past).rows
      subst hv1
      have HRR := Lib.hid hv2
      clear hv2 hrun
      by_cases hend : r.begun = false ∨ (r.cls.length : Int) < r.ann
      · have HE0 : Hid (parseB (W8 s) = ⟨0, [], (ls.length : Int) + 1, 4⟩) := by unfold Hid; rw [HOut.out]; unfold endR; rw [if_pos hend]
        have hT2 := (hr.set0 (.int .i64 0)).set1 (.slice none 0 0)
        have s0 := hT2.c0
        have s1 := hT2.c1
        have HBr := Lib.hid ((HB.out.setCell (p := ⟨w.heap.size, 0, none⟩) (Nat.le_refl _) (.int .i64 0)).setCell (p := ⟨w.heap.size, 1, none⟩) (Nat.le_refl _) (.slice none 0 0))
        clear hr hT2 HOut
        cases hbg : r.begun
        · clear hend
          go_wp2
          exact bodyPost_ret (v := .tuple #[.agg #[.int .i64 0, .slice none 0 0], .int .i64 ((ls.length : Int) + 1), .int .i64 4]) (by simp [results, Tryd.results16, go_sem, s0, s1]) rfl (by rw [HE0.out]; exact ⟨none, 0, rfl, .inl rfl, HBr.out⟩)
        · have hlt2 : (r.cls.length : Int) < r.ann := by rcases hend with h | h; (· rw [hbg] at h; cases h); (· exact h)
          clear hend
          go_wp2
          exact bodyPost_ret (v := .tuple #[.agg #[.int .i64 0, .slice none 0 0], .int .i64 ((ls.length : Int) + 1), .int .i64 4]) (by simp [results, Tryd.results16, go_sem, s0, s1]) rfl (by rw [HE0.out]; exact ⟨none, 0, rfl, .inl rfl, HBr.out⟩)
      · have HE0 : Hid (parseB (W8 s) = ⟨r.vars, r.cls, 0, 0⟩) := by unfold Hid; rw [HOut.out]; unfold endR; rw [if_neg hend]
        have hbg : r.begun = true := by cases h : r.begun; (· exact absurd (.inl h) hend); (· rfl)
        have hge : r.ann ≤ (r.cls.length : Int) := by by_cases h : (r.cls.length : Int) < r.ann; (· exact absurd (.inr h) hend); (· omega)
        have hT2 := (hr.set0 (.int .i64 r.vars)).set1 (.slice av r.cls.length dv)
        have s0 := hT2.c0
        have s1 := hT2.c1
        have HBr := Lib.hid ((HB.out.setCell (p := ⟨w.heap.size, 0, none⟩) (Nat.le_refl _) (.int .i64 r.vars)).setCell (p := ⟨w.heap.size, 1, none⟩) (Nat.le_refl _) (.slice av r.cls.length dv))
        have HR2 : Hid (RowsR .i64 ((wr.setCell ⟨w.heap.size, 0, none⟩ (.int .i64 r.vars)).setCell ⟨w.heap.size, 1, none⟩ (.slice av r.cls.length dv)) av r.cls) := by
          have hz := HP.out.lt
          have h1 := (HP.out.rows.below HP.out.past).setCell (p := ⟨w.heap.size, 0, none⟩) (show w.heap.size < wx.heap.size by omega) (.int .i64 r.vars)
          have h2 := h1.setCell (p := ⟨w.heap.size, 1, none⟩) (show w.heap.size < wx.heap.size by omega) (.slice av r.cls.length dv)
          obtain ⟨a', d', e1, _, _, _, e2⟩ := h2.rows
          injection e1 with e3 _ _
          subst e3; exact e2
        clear hr hT2 HOut hend
        go_wp2
        exact bodyPost_ret (v := .tuple #[.agg #[.int .i64 r.vars, .slice av r.cls.length dv], .int .i64 0, .int .i64 0]) (by simp [results, Tryd.results16, go_sem, s0, s1]) rfl (by rw [HE0.out]; exact ⟨av, dv, rfl, HR2.out, HBr.out⟩)
end Go.Proofs.YtkannkalbhmlcaaDoor
