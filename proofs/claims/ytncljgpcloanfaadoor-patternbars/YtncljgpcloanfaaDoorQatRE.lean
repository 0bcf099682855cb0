/- The document's once of layer 9: where an atom ends, over all places where it may begin; what lay in the world lies there still. Condition: what is behind the atom's first sign is walked already (AllAt). -/
import Derived.Test.YtncljgpcloanfaaDoorQatRD
namespace Go.Proofs.YtncljgpcloanfaaDoor
open Go.RowKit

/-- The text's row of numbers: nil where the text is empty. -/
def SgnV (w : World) (sv : Value) (ls : List Nat) : Prop := (ls = [] ∧ ∃ p c, sv = .slice p 0 c) ∨ ∃ g c, sv = rowV g c ls ∧ Ints w g ls
theorem SgnV.below {w w' : World} {sv : Value} {ls : List Nat} (h : SgnV w sv ls) (hb : Below w.heap.size w w') : SgnV w' sv ls := by
  rcases h with h | ⟨g, c, e, hI⟩
  · exact .inl h
  · exact .inr ⟨g, c, e, hI.below hb⟩
/-- What a walk needs of the world: the pattern's row, the text's row, a row of places. -/
structure Here (g : Nat) (l : List Nat) (sv : Value) (ls : List Nat) (w : World) (gf : Nat) (fr : List Bool) : Prop where
  p : Ints w g l
  s : SgnV w sv ls
  f : Bools w gf fr
  n : fr.length = ls.length + 1
  le : ls.length ≤ 8192
theorem Here.below {g : Nat} {l : List Nat} {sv : Value} {ls : List Nat} {w w' : World} {gf : Nat} {fr : List Bool} (h : Here g l sv ls w gf fr) (hb : Below w.heap.size w w') : Here g l sv ls w' gf fr := ⟨h.p.below hb, h.s.below hb, h.f.below hb, h.n, h.le⟩
/-- An answer: a row of places. -/
def Tells (w : World) (z : List Bool) (e : Ending) (w' : World) : Prop := ∃ g' c', e = .returned (bolV g' c' z) ∧ Bools w' g' z ∧ Below w.heap.size w w'
def AllAt (g cap : Nat) (l : List Nat) (sv : Value) (ls : List Nat) (a : Nat) : Prop := ∀ (k : Nat) (x : Pat) (r : List Nat) (fr : List Bool) (gf cf : Nat) (w : World), k ≤ 8 → rowsD k (l.drop a) = some (x, r) → a ≤ l.length → Here g l sv ls w gf fr →
    Calls Tryd.prog 21 #[rowV g cap l, .int .i64 (a : Int), sv, bolV gf cf fr] w (Tells w (ends ls x fr))
def OnceAt (g cap : Nat) (l : List Nat) (sv : Value) (ls : List Nat) (a : Nat) : Prop := ∀ (k : Nat) (x : Pat) (n : Nat) (fr : List Bool) (gf cf : Nat) (w : World), k ≤ 8 → atomD k (l.drop a) = some (x, l.drop n) → n ≤ l.length → a < l.length → Here g l sv ls w gf fr →
    Calls Tryd.prog 43 #[rowV g cap l, .int .i64 (a : Int), .int .i64 (n : Int), sv, bolV gf cf fr] w (Tells w (ends ls x fr))
theorem made_below {w : World} {z : List Bool} {k : Nat} {wr wq : World} (h : MadeAt w z k wr) (hb : Below wr.heap.size wr wq) : MadeAt w z k wq := by
  refine ⟨fun j hj => (hb.cell (p := ⟨w.heap.size, j, none⟩) h.lt).trans (h.cells j hj), fun j => ?_, chain h.below hb, by have := hb.size; have := h.lt; omega⟩
  have hb2 := hb.block w.heap.size h.lt
  have := h.free j
  unfold World.frozen? at this ⊢
  rw [hb2]; exact this
theorem shift_zero {f : Nat → Bool} {ls : List Nat} {fr : List Bool} (h : 0 < (shiftB f ls fr).length) : (shiftB f ls fr)[0] = false := rfl
theorem shift_at {f : Nat → Bool} {ls : List Nat} {fr : List Bool} {i : Nat} (hi : i < ls.length) (h1 : i < fr.length) (h : i + 1 < (shiftB f ls fr).length) : (shiftB f ls fr)[i + 1] = (fr[i] && f ls[i]) := by
  have e : (shiftB f ls fr)[i + 1]? = some (fr[i] && f ls[i]) := by
    unfold shiftB
    rw [List.getElem?_cons_succ, List.getElem?_zipWith]
    simp [h1, hi]
  rw [List.getElem?_eq_getElem h] at e
  exact Option.some.inj e
/-- An atom that is no group fits one sign. -/
theorem atom_one {k a : Nat} {l : List Nat} {x : Pat} {r : List Nat} (ha : a < l.length) (h40 : ¬ l[a] = 40) (h : atomD k (l.drop a) = some (x, r)) : ∃ o, x = .one o := by
  by_cases e91 : l[a] = 91
  · rw [at_cls k ha e91] at h
    unfold clsAt at h
    split at h
    · cases h
    · have aux : ∀ (b : Bool) (m : List Nat), clsL b m = some (x, r) → ∃ o, x = .one o := by
        intro b m hm
        unfold clsL at hm
        split at hm
        · cases hm
        · split at hm
          · cases hm
          · cases hm; exact ⟨_, rfl⟩
      split at h
      · exact aux _ _ h
      · exact aux _ _ h
  · by_cases e92 : l[a] = 92
    · by_cases h2 : a + 1 < l.length
      · rw [at_esc k ha e92 h2] at h
        split at h
        · cases h; exact ⟨_, rfl⟩
        · cases h
      · rw [at_esc0 k ha e92 h2] at h; cases h
    · rw [at_else k ha e91 h40 e92] at h
      split at h
      · cases h
      · split at h
        · cases h; exact ⟨_, rfl⟩
        · cases h; exact ⟨_, rfl⟩

set_option maxHeartbeats 2000000 in
set_option maxRecDepth 100000 in
theorem once_of (g cap : Nat) (l : List Nat) (sv : Value) (ls : List Nat) (a : Nat) (hA : AllAt g cap l sv ls (a + 1)) : OnceAt g cap l sv ls a := by
  intro k x n fr gf cf w hk hat hn ha hH
  have hlen := hH.p.len
  have hfl := hH.n
  have hle := hH.le
  have ca := hH.p.cells a ha
  have sa := hH.p.small l[a] (List.getElem_mem _)
  have i1 : (a : Int) < (l.length : Int) := by omega
  by_cases e40 : l[a] = 40
  · have d40 : ((l[a] : Int) == 40) = true := by rw [e40]; rfl
    obtain ⟨r, hr⟩ : ∃ r, ∃ j, k = j + 1 ∧ rowsD j (l.drop (a + 1)) = some (x, r) := by
      cases k with
      | zero => rw [at_grp0 ha e40] at hat; cases hat
      | succ j =>
        rw [at_grp j ha e40] at hat
        cases hz : rowsD j (l.drop (a + 1)) with
        | none => rw [hz] at hat; cases hat
        | some y =>
          obtain ⟨p, r⟩ := y
          rw [hz] at hat
          unfold shutR at hat
          split at hat
          · rename_i e
            cases e
            cases hat
            exact ⟨_, j, rfl, hz⟩
          · cases hat
    obtain ⟨j, rfl, hr⟩ := hr
    have H := hide (hA j x r fr gf cf w (by omega) hr (by omega) hH)
    unfold rowV at H ⊢
    rw [show ((a + 1 : Nat) : Int) = (a : Int) + 1 by omega] at H
    generalize ends ls x fr = z at *
    clear hat hA hH e40 hr hfl
    generalize l[a] = xa at *
    unfold Tells at H ⊢
    unfold bolV at H ⊢
    go_enter Tryd.func43, Tryd.ntmps43
    go_wp2_with fail
    refine H.out.mono ?_
    rintro e w1 ⟨g', c', rfl, hB, b1⟩
    go_wp2_with fail
    go_ret
    exact ⟨g', c', rfl, hB, b1⟩
  · have d40 : ((l[a] : Int) == 40) = false := by rw [beq_eq_false_iff_ne]; omega
    obtain ⟨o, rfl⟩ := atom_one ha e40 hat
    have HF := hide (fun c w' (b : Below w.heap.size w w') => refFitsOne_any g cap l a n c k o w' (hH.p.below b) hn ha e40 hat)
    have HH := hide hH
    show Calls _ _ _ _ (Tells w (shiftB (fitOne o) ls fr))
    have hz : (shiftB (fitOne o) ls fr).length = ls.length + 1 := shiftB_len hfl
    have MK := fun w => make_bools fr.length (by omega) w
    have M0 := hide (made_same (made_zero w (shiftB (fitOne o) ls fr) fr.length (by omega)) (by omega) rfl)
    have AT := hide (fun i hi h1 h => shift_at (f := fitOne o) (ls := ls) (fr := fr) (i := i) hi h1 h)
    clear hat hA e40 hH
    generalize shiftB (fitOne o) ls fr = z at *
    generalize l[a] = xa at *
    unfold rowV bolV at *
    have hz1 : z.length ≤ ls.length + 1 := by omega
    have hz2 : ls.length + 1 ≤ z.length := by omega
    have hf1 : fr.length ≤ ls.length + 1 := by omega
    have hf2 : ls.length + 1 ≤ fr.length := by omega
    have HZ : Hid (fr.length = z.length) := by show _ = _; omega
    clear hz hfl
    rcases HH.out.s with ⟨hls, p, c, rfl⟩ | ⟨gs, cs, rfl, hS⟩
    · have hl0 : ls.length = 0 := by rw [hls]; rfl
      have hz3 : z.length ≤ 1 := by omega
      have HK : Hid (ls.length = 0) := hl0
      have D := hide (fun wq (hm : MadeAt w z 1 wq) => made_done (by rw [show z.length = 1 by have := HK.out; omega]; exact hm))
      clear hls hl0 HF HH AT
      go_enter Tryd.func43, Tryd.ntmps43
      go_wp2_with fail
      go_loop [12] (fun i => i = .int .i64 0) (fun _ => 0)
      case atStart => exact rfl
      case round =>
        obtain rfl := hrel
        go_wp2_with fail
        go_ret
        exact ⟨w.heap.size, fr.length, by show Ending.returned (.slice (some ⟨w.heap.size, 0, none⟩) fr.length fr.length) = _; unfold bolV; rw [← HZ.out], D.out _ M0.out, M0.out.below⟩
    · have hsl := hS.len
      unfold rowV
      go_enter Tryd.func43, Tryd.ntmps43
      go_wp2_with fail
      go_loopw [12] (fun i wr => ∃ j : Nat, j ≤ ls.length ∧ i = .int .i64 j ∧ MadeAt w z (j + 1) wr) (fun i _ => ls.length - (intOf i).toNat)
      case atStart => exact ⟨0, Nat.zero_le _, rfl, M0.out⟩
      case round =>
        obtain ⟨j, hj, rfl, hm⟩ := hrel
        rename World => wr
        by_cases h : j < ls.length
        · have j1 : (j : Int) < (ls.length : Int) := by omega
          have jf : j < fr.length := by omega
          have jz : j + 1 < z.length := by omega
          have jf2 : (j : Int) < (fr.length : Int) := by omega
          have jz2 : (j : Int) + 1 < (fr.length : Int) := by omega
          have hw := hm.below
          have c1 := (HH.out.f.below hw).cells j jf
          have c2 := (hS.below hw).cells j h
          have s2 := hS.small ls[j] (List.getElem_mem _)
          have at1 := AT.out j h jf jz
          cases hfr : fr[j] with
          | false =>
            rw [hfr] at c1
            rw [hfr, Bool.false_and] at at1
            have NX := hide (made_same hm jz at1)
            clear hm HF HH AT hS at1 hfr c2
            go_wp2_with fail
            go_roundw
            case rel => exact ⟨j + 1, by omega, by go_num, NX.out⟩
            case measure => simp [intOf]; omega
          | true =>
            rw [hfr] at c1
            rw [hfr, Bool.true_and] at at1
            have HFj := hide (HF.out ls[j] wr hw)
            have MB := hide (fun wq (b : Below wr.heap.size wr wq) => made_below hm b)
            cases hfo : fitOne o ls[j] with
            | false =>
              rw [hfo] at HFj at1
              have NX := hide (fun wq (b : Below wr.heap.size wr wq) => made_same (MB.out wq b) jz at1)
              clear hm HF HH AT hS at1 hfr hfo
              generalize ls[j] = lj at *
              go_wp2_with fail
              refine HFj.out.mono ?_
              rintro e w1 ⟨rfl, b1⟩
              go_wp2_with fail
              go_roundw
              case rel => exact ⟨j + 1, by omega, by go_num, NX.out _ b1⟩
              case measure => simp [intOf]; omega
            | true =>
              rw [hfo] at HFj at1
              have NX := hide (fun wq (b : Below wr.heap.size wr wq) => made_next (MB.out wq b) jz (b := true) at1.symm)
              have CZ := hide (fun wq (b : Below wr.heap.size wr wq) => (MB.out wq b).cells (j + 1) jz)
              have FZ := hide (fun wq (b : Below wr.heap.size wr wq) => (MB.out wq b).free (j + 1))
              clear hm HF HH AT hS at1 hfr hfo
              generalize ls[j] = lj at *
              go_wp2_with fail
              refine HFj.out.mono ?_
              rintro e w1 ⟨rfl, b1⟩
              have cz := CZ.out w1 b1
              have fz := FZ.out w1 b1
              go_wp2_with fail
              go_roundw
              case rel => exact ⟨j + 1, by omega, by go_num, NX.out _ b1⟩
              case measure => simp [intOf]; omega
        · obtain rfl : j = ls.length := by omega
          have D := hide (made_done (z := z) (w := w) (wr := wr) (by rw [show z.length = ls.length + 1 by omega]; exact hm))
          have hb := hm.below
          clear hm HF HH AT h
          go_wp2_with fail
          go_ret
          exact ⟨w.heap.size, fr.length, by show Ending.returned (.slice (some ⟨w.heap.size, 0, none⟩) fr.length fr.length) = _; unfold bolV; rw [← HZ.out], D.out, hb⟩

end Go.Proofs.YtncljgpcloanfaaDoor
