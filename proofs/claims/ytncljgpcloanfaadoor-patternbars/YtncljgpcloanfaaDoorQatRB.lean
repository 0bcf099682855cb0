/- The document's fitsOne of layer 9: it answers by the function of 'PatM'; what lay in the world lies there still. Condition: the pattern's signs lie in a row of numbers; an atom that is no group stands there. -/
import Derived.Test.YtncljgpcloanfaaDoorQatRA
namespace Go.Proofs.YtncljgpcloanfaaDoor
open Go.RowKit

/-- The items of a class from a place on, up to the ] ahead of e. -/
def Chain (l : List Nat) (e : Nat) : Nat → List Item → Prop
  | k, [] => k + 1 = e
  | k, i :: is => ∃ n, k + 1 < e ∧ itemL (l.drop k) = some (i, l.drop n) ∧ k < n ∧ n ≤ l.length ∧ Chain l e n is
theorem Chain.done {l : List Nat} {e k : Nat} (h : k + 1 = e) : Chain l e k [] := h
theorem Chain.more {l : List Nat} {e k n : Nat} {i : Item} {is : List Item} (h : k + 1 < e) (hi : itemL (l.drop k) = some (i, l.drop n)) (h1 : k < n) (h2 : n ≤ l.length) (hr : Chain l e n is) : Chain l e k (i :: is) := ⟨n, h, hi, h1, h2, hr⟩
theorem chain_of {l : List Nat} {e : Nat} (he : e ≤ l.length) : ∀ (f : Nat) (k : Nat) (is : List Item), k ≤ l.length → itemsF f (l.drop k) = some (is, l.drop e) → Chain l e k is ∧ k + 1 ≤ e
  | 0, k, is, _, h => by cases h
  | f + 1, k, is, hk, h => by
    by_cases hl : k < l.length
    · rw [dropN hl] at h
      rw [itemsF] at h
      by_cases h3 : l[k] = 93
      · rw [if_pos h3] at h
        have h4 := Prod.mk.inj (Option.some.inj h)
        have := drop_same (by omega) he h4.2
        rw [← h4.1]
        exact ⟨.done this, by omega⟩
      · rw [if_neg h3, ← dropN hl] at h
        cases hi : itemL (l.drop k) with
        | none => rw [hi] at h; cases h
        | some x =>
          obtain ⟨i, r⟩ := x
          obtain ⟨n, n1, n2, rfl⟩ := item_some hi
          rw [hi] at h
          simp only at h
          cases hr : itemsF f (l.drop n) with
          | none => rw [hr] at h; cases h
          | some y =>
            obtain ⟨is2, r2⟩ := y
            rw [hr] at h
            have h4 := Prod.mk.inj (Option.some.inj h)
            have h5 : r2 = l.drop e := h4.2
            subst h5
            obtain ⟨c1, c2⟩ := chain_of he f n is2 n2 hr
            rw [← h4.1]
            exact ⟨.more (by omega) hi n1 n2 c1, by omega⟩
    · rw [List.drop_eq_nil_of_le (by omega)] at h; cases h
theorem cls_chain {l : List Nat} {e b : Nat} {neg : Bool} {o : One} (he : e ≤ l.length) (h : clsL neg (l.drop b) = some (.one o, l.drop e)) : ∃ is, o = .cls neg is ∧ Chain l e b is := by
  unfold clsL at h
  cases hi : itemL (l.drop b) with
  | none => rw [hi] at h; cases h
  | some x =>
    obtain ⟨i, r⟩ := x
    obtain ⟨n, n1, n2, rfl⟩ := item_some hi
    rw [hi] at h
    simp only at h
    cases hr : itemsF ((l.drop n).length + 1) (l.drop n) with
    | none => rw [hr] at h; cases h
    | some y =>
      obtain ⟨is, r2⟩ := y
      rw [hr] at h
      have h4 := Prod.mk.inj (Option.some.inj h)
      have h5 : r2 = l.drop e := h4.2
      subst h5
      obtain ⟨c1, c2⟩ := chain_of he _ n is n2 hr
      have h6 := h4.1
      replace h6 := Pat.one_inj h6
      exact ⟨i :: is, h6.symm, .more (by omega) hi n1 n2 c1⟩
theorem dwsu (d : Nat) : inN [68, 87, 83] d = inN dwsN (d + 32) := by
  unfold inN dwsN
  rw [Bool.eq_iff_iff, List.contains_iff_mem, List.contains_iff_mem]
  simp
theorem esc_big {d : Nat} (h : inN dwsN (d + 32) = true) (c : Nat) : fitOne (escP d) c = !namedN (d + 32) c := by
  have h2 : inN dwsN d = false := by
    unfold inN dwsN at h ⊢
    rw [List.contains_iff_mem] at h
    rw [← Bool.not_eq_true, List.contains_iff_mem]
    simp at h ⊢
    omega
  unfold escP
  rw [h2, if_neg (by simp), if_pos h]
  rfl
theorem esc_small {d : Nat} (h : inN dwsN d = true) (c : Nat) : fitOne (escP d) c = namedN d c := by
  unfold escP
  rw [if_pos h]; rfl
theorem esc_sign {d : Nat} (h : inN dwsN d = false) (h2 : inN dwsN (d + 32) = false) (c : Nat) : fitOne (escP d) c = (c == d) := by
  unfold escP
  rw [h, h2, if_neg (by simp), if_neg (by simp)]; rfl
theorem cls_step (neg : Bool) (i : Item) (is : List Item) (c : Nat) : fitOne (.cls neg (i :: is)) c = if fitItem i c then !neg else fitOne (.cls neg is) c := by
  show (if (i :: is).any (fun i => fitItem i c) then !neg else neg) = _
  rw [List.any_cons]
  cases fitItem i c with
  | true => rw [Bool.true_or, if_pos rfl, if_pos rfl]
  | false => rfl

set_option maxHeartbeats 2000000 in
set_option maxRecDepth 100000 in
theorem refFitsOne_any (g cap : Nat) (l : List Nat) (a e c k : Nat) (o : One) (w : World) (hI : Ints w g l) (he : e ≤ l.length) (ha : a < l.length) (h40 : ¬ l[a] = 40) (hat : atomD k (l.drop a) = some (.one o, l.drop e)) :
    Calls Tryd.prog 51 #[rowV g cap l, .int .i64 (a : Int), .int .i64 (e : Int), .int .i64 (c : Int)] w fun r w' => r = .returned (.bool (fitOne o c)) ∧ Below w.heap.size w w' := by
  have hlen := hI.len
  have ca := hI.cells a ha
  have sa := hI.small l[a] (List.getElem_mem _)
  have i1 : (a : Int) < (l.length : Int) := by omega
  by_cases e46 : l[a] = 46
  · have d46 : ((l[a] : Int) == 46) = true := by rw [e46]; rfl
    rw [at_else k ha (by omega) h40 (by omega), if_neg (by rw [e46]; decide), if_pos e46] at hat
    have ho : One.any = o := by
      have := (Prod.mk.inj (Option.some.inj hat)).1
      simpa using this
    subst ho
    have E : Hid (fitOne .any c = (((c : Int) != 10) && ((c : Int) != 13))) := by
      show (!(c == 10) && !(c == 13)) = _
      have e10 := nat_bne c 10
      have e13 := nat_bne c 13
      rw [← e10, ← e13]; rfl
    clear hI hat h40 e46
    generalize fitOne .any c = R at *
    generalize l[a] = xa at *
    generalize (c : Int) = ci at *
    unfold rowV
    cases q : (ci != 10) with
    | false =>
      rw [q, Bool.false_and] at E
      go_enter Tryd.func51, Tryd.ntmps51
      go_wp2_with fail
      go_ret
      exact ⟨ret_bool E.out.symm, Below.refl _ _⟩
    | true =>
      rw [q, Bool.true_and] at E
      go_enter Tryd.func51, Tryd.ntmps51
      go_wp2_with fail
      go_ret
      exact ⟨ret_bool E.out.symm, Below.refl _ _⟩
  have d46 : ((l[a] : Int) == 46) = false := by rw [beq_eq_false_iff_ne]; omega
  by_cases e92 : l[a] = 92
  · have d92 : ((l[a] : Int) == 92) = true := by rw [e92]; rfl
    by_cases h2 : a + 1 < l.length
    rotate_left
    · rw [at_esc0 k ha e92 h2] at hat; cases hat
    rw [at_esc k ha e92 h2] at hat
    split at hat
    rotate_left
    · cases hat
    have ho : escP l[a + 1] = o := by
      have := (Prod.mk.inj (Option.some.inj hat)).1
      simpa using this
    subst ho
    have c2 := hI.cells (a + 1) h2
    have s2 := hI.small l[a + 1] (List.getElem_mem _)
    have i4 : (a : Int) + 1 < (l.length : Int) := by omega
    have H1 := hide (fun w => refInN_any l[a + 1] ⟨#[68, 87, 83]⟩ w (by decide))
    rw [show nums ⟨#[68, 87, 83]⟩ = [68, 87, 83] from rfl, dwsu] at H1
    have H2 := hide (fun w => refInN_any l[a + 1] ⟨#[100, 119, 115]⟩ w (by decide))
    rw [show nums ⟨#[100, 119, 115]⟩ = dwsN from rfl] at H2
    have H3 := hide (fun w => refNamed_any l[a + 1] c w)
    have H4 := hide (fun w => refNamed_any (l[a + 1] + 32) c w)
    rw [show ((l[a + 1] + 32 : Nat) : Int) = (l[a + 1] : Int) + 32 by omega] at H4
    cases hu : inN dwsN (l[a + 1] + 32) with
    | true =>
      have E := hide (esc_big hu c)
      rw [hu] at H1
      clear hI hat h40 e46 e92 hu H2 H3
      generalize fitOne (escP l[a + 1]) c = R at *
      generalize namedN (l[a + 1] + 32) c = R2 at *
      generalize l[a] = xa at *
      generalize l[a + 1] = xb at *
      unfold rowV
      go_enter Tryd.func51, Tryd.ntmps51
      go_wp2_with fail
      refine (H1.out _).mono ?_
      rintro e uu ⟨rfl, rfl⟩
      go_wp2_with fail
      refine (H4.out _).mono ?_
      rintro e uu ⟨rfl, rfl⟩
      go_wp2_with fail
      go_ret
      exact ⟨ret_bool E.out.symm, Below.refl _ _⟩
    | false =>
      rw [hu] at H1
      cases hd : inN dwsN l[a + 1] with
      | true =>
        have E := hide (esc_small hd c)
        rw [hd] at H2
        clear hI hat h40 e46 e92 hu hd H4
        generalize fitOne (escP l[a + 1]) c = R at *
        generalize namedN l[a + 1] c = R2 at *
        generalize l[a] = xa at *
        generalize l[a + 1] = xb at *
        unfold rowV
        go_enter Tryd.func51, Tryd.ntmps51
        go_wp2_with fail
        refine (H1.out _).mono ?_
        rintro e uu ⟨rfl, rfl⟩
        go_wp2_with fail
        refine (H2.out _).mono ?_
        rintro e uu ⟨rfl, rfl⟩
        go_wp2_with fail
        refine (H3.out _).mono ?_
        rintro e uu ⟨rfl, rfl⟩
        go_wp2_with fail
        go_ret
        exact ⟨ret_bool E.out.symm, Below.refl _ _⟩
      | false =>
        have E := hide ((esc_sign hd hu c).trans (nat_beq c l[a + 1]).symm)
        rw [hd] at H2
        clear hI hat h40 e46 e92 hu hd H4 H3
        generalize fitOne (escP l[a + 1]) c = R at *
        generalize l[a] = xa at *
        generalize l[a + 1] = xb at *
        unfold rowV
        go_enter Tryd.func51, Tryd.ntmps51
        go_wp2_with fail
        refine (H1.out _).mono ?_
        rintro e uu ⟨rfl, rfl⟩
        go_wp2_with fail
        refine (H2.out _).mono ?_
        rintro e uu ⟨rfl, rfl⟩
        go_wp2_with fail
        go_ret
        exact ⟨ret_bool E.out.symm, Below.refl _ _⟩
  have d92 : ((l[a] : Int) == 92) = false := by rw [beq_eq_false_iff_ne]; omega
  by_cases e91 : l[a] = 91
  rotate_left
  · have d91 : ((l[a] : Int) == 91) = false := by rw [beq_eq_false_iff_ne]; omega
    rw [at_else k ha e91 h40 e92] at hat
    split at hat
    · cases hat
    have ho : One.sign l[a] = o := by
      have := (Prod.mk.inj (Option.some.inj hat)).1
      simpa using this
    subst ho
    have E : Hid (fitOne (.sign l[a]) c = ((c : Int) == (l[a] : Int))) := (nat_beq c l[a]).symm
    clear hI hat h40 e46 e92 e91
    generalize fitOne (.sign l[a]) c = R at *
    generalize l[a] = xa at *
    unfold rowV
    go_enter Tryd.func51, Tryd.ntmps51
    go_wp2_with fail
    go_ret
    exact ⟨ret_bool E.out.symm, Below.refl _ _⟩
  have d91 : ((l[a] : Int) == 91) = true := by rw [e91]; rfl
  rw [at_cls k ha e91] at hat
  obtain ⟨b, neg, is, hb1, hb2, h2, rfl, hch, hneg⟩ : ∃ b neg is, a < b ∧ b ≤ l.length ∧ ∃ h2 : a + 1 < l.length, o = .cls neg is ∧ Chain l e b is ∧ ((neg = true ∧ l[a + 1] = 94 ∧ b = a + 2) ∨ (neg = false ∧ ¬ l[a + 1] = 94 ∧ b = a + 1)) := by
    by_cases h2 : a + 1 < l.length
    · rw [dropN h2] at hat
      unfold clsAt at hat
      simp only at hat
      split at hat
      · rename_i e94
        obtain ⟨is, q1, q2⟩ := cls_chain he (b := a + 2) hat
        exact ⟨a + 2, true, is, by omega, by omega, h2, q1, q2, .inl ⟨rfl, e94, rfl⟩⟩
      · rename_i e94
        rw [← dropN h2] at hat
        obtain ⟨is, q1, q2⟩ := cls_chain he (b := a + 1) hat
        exact ⟨a + 1, false, is, by omega, by omega, h2, q1, q2, .inr ⟨rfl, e94, rfl⟩⟩
    · rw [List.drop_eq_nil_of_le (by omega)] at hat; cases hat
  have c2 := hI.cells (a + 1) h2
  have s2 := hI.small l[a + 1] (List.getElem_mem _)
  have i4 : (a : Int) + 1 < (l.length : Int) := by omega
  have HC := hide hI
  have HIT := hide (fun j w' (b : Below w.heap.size w w') (hj : j ≤ l.length) => refItem_any g cap l j w' (hI.below b) hj)
  have HFI := hide (fun j n i w' (b : Below w.heap.size w w') (hn : n ≤ l.length) (h : itemL (l.drop j) = some (i, l.drop n)) => refFitsItem_any g cap l j n c i w' (hI.below b) hn h)
  unfold rowV at HIT HFI
  generalize hR : fitOne (.cls neg is) c = R
  have HR := hide hR
  have HCH := hide hch
  clear hR hch hI hat h40 e46 e92 e91
  generalize l[a] = xa at *
  unfold rowV
  rcases hneg with ⟨rfl, q2, rfl⟩ | ⟨rfl, q2, rfl⟩
  · have d94 : ((l[a + 1] : Int) == 94) = true := by rw [q2]; rfl
    clear q2
    generalize l[a + 1] = xb at *
    go_enter Tryd.func51, Tryd.ntmps51
    go_wp2_with fail
    go_loopw [10] (fun i wr => ∃ (j : Nat) (js : List Item), j ≤ l.length ∧ i = .int .i64 j ∧ Hid (Chain l e j js) ∧ Hid (fitOne (.cls true js) c = R) ∧ Below w.heap.size w wr) (fun i _ => l.length - (intOf i).toNat)
    case atStart => exact ⟨_, is, hb2, by go_num, HCH.out, HR.out, Below.refl _ _⟩
    case round =>
      obtain ⟨j, js, hj, rfl, hch, hd, hb⟩ := hrel
      rename World => wr
      clear HCH HR
      cases js with
      | nil =>
        have hje : j + 1 = e := hch.out
        have E := hd.out
        have E2 : Hid (R = true) := E.symm
        have z1 : ¬ (j : Int) < (e : Int) - 1 := by omega
        clear hch hd E HIT HFI HC hje
        go_wp2_with fail
        go_ret
        exact ⟨ret_bool E2.out.symm, hb⟩
      | cons i is2 =>
        obtain ⟨n, hje, hi, h1, h2', hr⟩ := hch.out
        have z1 : (j : Int) < (e : Int) - 1 := by omega
        have HJ := hide (HIT.out j wr hb hj)
        rw [hi, endI_at i h2'] at HJ
        have HF := hide (fun w' (b : Below w.heap.size w w') => HFI.out j n i w' b h2' hi)
        have E := hd.out
        rw [cls_step] at E
        have HRR := hide hr
        clear hch hd HIT HFI HC hi hr
        cases hf : fitItem i c with
        | true =>
          rw [hf] at HF
          rw [hf, if_pos rfl] at E
          have E2 := hide E.symm
          clear E hf
          go_wp2_with fail
          refine HJ.out.mono ?_
          rintro x w1 ⟨rfl, q, rfl⟩
          go_wp2_with fail
          refine (HF.out _ (below_drewN hb q)).mono ?_
          rintro x w2 ⟨rfl, q2, rfl⟩
          go_wp2_with fail
          go_ret
          exact ⟨ret_bool E2.out.symm, below_drewN hb _⟩
        | false =>
          rw [hf] at HF
          rw [hf, if_neg (by simp)] at E
          have E2 := hide E
          clear E hf
          go_wp2_with fail
          refine HJ.out.mono ?_
          rintro x w1 ⟨rfl, q, rfl⟩
          go_wp2_with fail
          refine (HF.out _ (below_drewN hb q)).mono ?_
          rintro x w2 ⟨rfl, q2, rfl⟩
          go_wp2_with fail
          go_roundw
          case rel => exact ⟨n, is2, h2', rfl, HRR.out, E2.out, below_drewN hb _⟩
          case measure => simp [intOf]; omega
  · have d94 : ((l[a + 1] : Int) == 94) = false := by rw [beq_eq_false_iff_ne]; omega
    clear q2
    generalize l[a + 1] = xb at *
    go_enter Tryd.func51, Tryd.ntmps51
    go_wp2_with fail
    go_loopw [10] (fun i wr => ∃ (j : Nat) (js : List Item), j ≤ l.length ∧ i = .int .i64 j ∧ Hid (Chain l e j js) ∧ Hid (fitOne (.cls false js) c = R) ∧ Below w.heap.size w wr) (fun i _ => l.length - (intOf i).toNat)
    case atStart => exact ⟨_, is, hb2, by go_num, HCH.out, HR.out, Below.refl _ _⟩
    case round =>
      obtain ⟨j, js, hj, rfl, hch, hd, hb⟩ := hrel
      rename World => wr
      clear HCH HR
      cases js with
      | nil =>
        have hje : j + 1 = e := hch.out
        have E := hd.out
        have E2 : Hid (R = false) := E.symm
        have z1 : ¬ (j : Int) < (e : Int) - 1 := by omega
        clear hch hd E HIT HFI HC hje
        go_wp2_with fail
        go_ret
        exact ⟨ret_bool E2.out.symm, hb⟩
      | cons i is2 =>
        obtain ⟨n, hje, hi, h1, h2', hr⟩ := hch.out
        have z1 : (j : Int) < (e : Int) - 1 := by omega
        have HJ := hide (HIT.out j wr hb hj)
        rw [hi, endI_at i h2'] at HJ
        have HF := hide (fun w' (b : Below w.heap.size w w') => HFI.out j n i w' b h2' hi)
        have E := hd.out
        rw [cls_step] at E
        have HRR := hide hr
        clear hch hd HIT HFI HC hi hr
        cases hf : fitItem i c with
        | true =>
          rw [hf] at HF
          rw [hf, if_pos rfl] at E
          have E2 := hide E.symm
          clear E hf
          go_wp2_with fail
          refine HJ.out.mono ?_
          rintro x w1 ⟨rfl, q, rfl⟩
          go_wp2_with fail
          refine (HF.out _ (below_drewN hb q)).mono ?_
          rintro x w2 ⟨rfl, q2, rfl⟩
          go_wp2_with fail
          go_ret
          exact ⟨ret_bool E2.out.symm, below_drewN hb _⟩
        | false =>
          rw [hf] at HF
          rw [hf, if_neg (by simp)] at E
          have E2 := hide E
          clear E hf
          go_wp2_with fail
          refine HJ.out.mono ?_
          rintro x w1 ⟨rfl, q, rfl⟩
          go_wp2_with fail
          refine (HF.out _ (below_drewN hb q)).mono ?_
          rintro x w2 ⟨rfl, q2, rfl⟩
          go_wp2_with fail
          go_roundw
          case rel => exact ⟨n, is2, h2', rfl, HRR.out, E2.out, below_drewN hb _⟩
          case measure => simp [intOf]; omega

end Go.Proofs.YtncljgpcloanfaaDoor
