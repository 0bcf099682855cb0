/- The document's class, digits and often of layer 9: they answer by the functions of 'PatP'; what lay in the world lies there still. Condition: the pattern's signs lie in a row of numbers. -/
import Derived.WalkSmall
import Derived.Deep.DeepCutAuto
import Derived.Test.YtncljgpcloanfaaDoorQatR3
namespace Go.Proofs.YtncljgpcloanfaaDoor
open Go.RowKit

def endP (l : List Nat) : Rd → Int
  | none => -1
  | some x => (l.length : Int) - (x.2.length : Int)
def endS (l : List Nat) : Option (List Item × List Nat) → Int
  | none => -1
  | some x => (l.length : Int) - (x.2.length : Int)
/-- What is left of a class to be read: its first item, or more. -/
def leftC (l : List Nat) (first : Bool) (k : Nat) : Int := if first then endP l (clsL false (l.drop k)) else endS l (itemsF ((l.drop k).length + 1) (l.drop k))
theorem cls_end (l : List Nat) (b : Bool) (m : List Nat) : endP l (clsL b m) = endP l (clsL false m) := by
  unfold clsL
  cases itemL m with
  | none => rfl
  | some x =>
    obtain ⟨i, r⟩ := x
    simp only
    cases itemsF (r.length + 1) r with
    | none => rfl
    | some y => rfl
theorem items_cons {n c : Nat} {t r : List Nat} {i : Item} (h3 : ¬ c = 93) (hi : itemL (c :: t) = some (i, r)) : itemsF (n + 1) (c :: t) = match itemsF n r with
      | none => none
      | some (is, r2) => some (i :: is, r2) := by
  rw [itemsF, if_neg h3]
  simp only [hi]
  cases itemsF n r with
  | none => rfl
  | some y => rfl
theorem left_bad {l : List Nat} {first : Bool} {k : Nat} (h : first = true ∨ ∃ h : k < l.length, ¬ l[k] = 93) (hi : itemL (l.drop k) = none) : leftC l first k = -1 := by
  unfold leftC
  cases first with
  | true => rw [if_pos rfl]; unfold clsL; rw [hi]; rfl
  | false =>
    rw [if_neg (by simp)]
    rcases h with h | ⟨h, h3⟩
    · cases h
    · rw [dropN h] at hi ⊢
      unfold itemsF
      rw [if_neg h3]
      simp only [hi]
      rfl
theorem left_next {l : List Nat} {first : Bool} {k n : Nat} {i : Item} (h : first = true ∨ ∃ h : k < l.length, ¬ l[k] = 93) (hi : itemL (l.drop k) = some (i, l.drop n)) : leftC l first k = leftC l false n := by
  have hl := item_less hi
  unfold leftC
  rw [if_neg (show ¬ false = true by simp)]
  cases first with
  | true =>
    rw [if_pos rfl]
    unfold clsL
    rw [hi]
    simp only
    cases itemsF ((l.drop n).length + 1) (l.drop n) with
    | none => rfl
    | some y => rfl
  | false =>
    rw [if_neg (by simp)]
    rcases h with h | ⟨h, h3⟩
    · cases h
    · have hf : itemsF (l.drop k).length (l.drop n) = itemsF ((l.drop n).length + 1) (l.drop n) := items_fuel hl (Nat.lt_succ_self _)
      have e := items_cons (n := (l.drop k).length) h3 (by rw [← dropN h]; exact hi)
      rw [← dropN h, hf] at e
      rw [e]
      cases itemsF ((l.drop n).length + 1) (l.drop n) with
      | none => rfl
      | some y => rfl
theorem left_shut {l : List Nat} {k : Nat} (h : k < l.length) (h3 : l[k] = 93) : leftC l false k = (k : Int) + 1 := by
  unfold leftC
  rw [if_neg (by simp), dropN h]
  unfold itemsF
  rw [if_pos h3]
  show (l.length : Int) - ((l.drop (k + 1)).length : Int) = _
  rw [List.length_drop]; omega
theorem left_open {l : List Nat} {k : Nat} (h : ¬ k < l.length) : leftC l false k = -1 := by
  unfold leftC
  rw [if_neg (by simp), List.drop_eq_nil_of_le (by omega)]; rfl
theorem item_some {l : List Nat} {k : Nat} {i : Item} {r : List Nat} (h : itemL (l.drop k) = some (i, r)) : ∃ n, k < n ∧ n ≤ l.length ∧ r = l.drop n := by
  have aux : ∀ {j : Nat} {b : Bool} {a : Nat} {v : List Nat}, behindL (l.drop j) = some (b, a, v) → ∃ n, j < n ∧ n ≤ l.length ∧ v = l.drop n := fun h => by
    obtain ⟨n, h1, h2, h3, _⟩ := bh_some h
    exact ⟨n, h1, h2, h3⟩
  cases hb : behindL (l.drop k) with
  | none => rw [item_none hb] at h; cases h
  | some x =>
    obtain ⟨b, a, v⟩ := x
    obtain ⟨n, h1, h2, rfl⟩ := aux hb
    by_cases e : (l.drop n).head? = some 45
    · obtain ⟨u, hu⟩ : ∃ u, l.drop n = 45 :: u := by
        cases hd : l.drop n with
        | nil => rw [hd] at e; cases e
        | cons c u => rw [hd] at e; exact ⟨u, by rw [Option.some.inj e]⟩
      have hnl : n < l.length := by
        rcases Nat.lt_or_ge n l.length with g | g
        · exact g
        · rw [List.drop_eq_nil_of_le g] at hu; cases hu
      have hu2 : u = l.drop (n + 1) := by
        rw [dropN hnl] at hu
        exact (List.cons.inj hu).2.symm
      rw [hu] at hb
      rw [item_dash hb, hu2] at h
      cases hb2 : behindL (l.drop (n + 1)) with
      | none => rw [hb2] at h; cases h
      | some y =>
        obtain ⟨b2, a2, v2⟩ := y
        obtain ⟨m, h4, h5, rfl⟩ := aux hb2
        rw [hb2] at h
        simp only at h
        split at h
        · cases h
        · cases h; exact ⟨m, by omega, h5, rfl⟩
    · rw [item_one hb e] at h
      cases h
      exact ⟨n, h1, h2, rfl⟩

set_option maxHeartbeats 1000000 in
set_option maxRecDepth 100000 in
theorem refClass_any (g cap : Nat) (l : List Nat) (k : Nat) (w : World) (hI : Ints w g l) (hk : k < l.length) :
    Calls Tryd.prog 47 #[rowV g cap l, .int .i64 (k : Int)] w fun e w' => e = .returned (.int .i64 (endP l (clsAt (l.drop (k + 1))))) ∧ Below w.heap.size w w' := by
  have hlen := hI.len
  have HIT := hide (fun j w' (b : Below w.heap.size w w') (hj : j ≤ l.length) => refItem_any g cap l j w' (hI.below b) hj)
  unfold rowV at HIT
  -- where the items begin
  obtain ⟨b, hbl, E⟩ : ∃ b, b ≤ l.length ∧ endP l (clsAt (l.drop (k + 1))) = leftC l true b ∧ ((∃ h : k + 1 < l.length, l[k + 1] = 94 ∧ b = k + 2) ∨ ((∀ h : k + 1 < l.length, ¬ l[k + 1] = 94) ∧ b = k + 1)) := by
    by_cases h : k + 1 < l.length
    · by_cases e : l[k + 1] = 94
      · refine ⟨k + 2, by omega, ?_, .inl ⟨h, e, rfl⟩⟩
        rw [dropN h]
        show endP l (if l[k + 1] = 94 then clsL true (l.drop (k + 2)) else _) = endP l (clsL false (l.drop (k + 2)))
        rw [if_pos e, cls_end]
      · refine ⟨k + 1, by omega, ?_, .inr ⟨fun _ => e, rfl⟩⟩
        show _ = endP l (clsL false (l.drop (k + 1)))
        rw [dropN h]
        show endP l (if l[k + 1] = 94 then _ else clsL false (l[k + 1] :: l.drop (k + 1 + 1))) = _
        rw [if_neg e]
    · refine ⟨k + 1, by omega, ?_, .inr ⟨fun h2 => absurd h2 h, rfl⟩⟩
      unfold leftC
      rw [if_pos rfl, List.drop_eq_nil_of_le (by omega)]; rfl
  obtain ⟨E, hcase⟩ := E
  rw [E]
  clear E
  generalize hR : leftC l true b = R
  have HR := hide hR
  clear hR
  have LB := hide (fun first j h hi => left_bad (l := l) (first := first) (k := j) h hi)
  have LN := hide (fun first j n i h hi => left_next (l := l) (first := first) (k := j) (n := n) (i := i) h hi)
  have LS := hide (fun j h h3 => left_shut (l := l) (k := j) h h3)
  have LO := hide (fun j h => left_open (l := l) (k := j) h)
  have IS := hide (fun j i r h => item_some (l := l) (k := j) (i := i) (r := r) h)
  have HC := hide hI
  have kk1 : (k : Int) + 1 ≤ (l.length : Int) := by omega
  unfold rowV
  have C3 : (∃ h : k + 1 < l.length, l[k + 1] = 94 ∧ b = k + 2) ∨ (∃ h : k + 1 < l.length, ¬ l[k + 1] = 94 ∧ b = k + 1) ∨ (¬ k + 1 < l.length ∧ b = k + 1) := by
    rcases hcase with h | ⟨h, e⟩
    · exact .inl h
    · by_cases g : k + 1 < l.length
      · exact .inr (.inl ⟨g, h g, e⟩)
      · exact .inr (.inr ⟨g, e⟩)
  clear hcase hI
  rcases C3 with ⟨g1, g2, rfl⟩ | ⟨g1, g2, rfl⟩ | ⟨g1, rfl⟩
  all_goals
    first
    | (have q : ((l[k + 1] : Int) == 94) = true := by rw [g2]; rfl
       have c1 := HC.out.cells (k + 1) g1
       have s1 := HC.out.small l[k + 1] (List.getElem_mem _)
       have i1 : (k : Int) + 1 < (l.length : Int) := by omega
       clear g2
       generalize l[k + 1] = x1 at *
       go_enter Tryd.func47, Tryd.ntmps47
       go_wp2_with fail)
    | (have q : ((l[k + 1] : Int) == 94) = false := by rw [beq_eq_false_iff_ne]; omega
       have c1 := HC.out.cells (k + 1) g1
       have s1 := HC.out.small l[k + 1] (List.getElem_mem _)
       have i1 : (k : Int) + 1 < (l.length : Int) := by omega
       clear g2
       generalize l[k + 1] = x1 at *
       go_enter Tryd.func47, Tryd.ntmps47
       go_wp2_with fail)
    | (have i1 : ¬ (k : Int) + 1 < (l.length : Int) := by omega
       go_enter Tryd.func47, Tryd.ntmps47
       go_wp2_with fail)
  all_goals
    go_loopw [1, 5] (fun i f wr => ∃ (j : Nat) (fb : Bool), j ≤ l.length ∧ i = .int .i64 j ∧ f = .bool fb ∧ Hid (leftC l fb j = R) ∧ Below w.heap.size w wr) (fun i _ _ => l.length - (intOf i).toNat)
    case atStart => exact ⟨_, true, hbl, by go_num, rfl, HR.out, Below.refl _ _⟩
    case round =>
      obtain ⟨j, fb, hj, rfl, rfl, hd, hb⟩ := hrel
      rename World => wr
      have HJ := hide (HIT.out j wr hb hj)
      have GO : Hid ((fb = true ∨ ∃ h : j < l.length, ¬ l[j] = 93) → (endI l (itemL (l.drop j)) = -1 ∧ R = -1) ∨ ∃ n : Nat, j < n ∧ n ≤ l.length ∧ endI l (itemL (l.drop j)) = (n : Int) ∧ leftC l false n = R) := by
        intro h
        cases hi : itemL (l.drop j) with
        | none => exact .inl ⟨rfl, by rw [← hd.out]; exact LB.out fb j h hi⟩
        | some x =>
          obtain ⟨i, r⟩ := x
          obtain ⟨n, n1, n2, rfl⟩ := IS.out j i r hi
          exact .inr ⟨n, n1, n2, endI_at i n2, by rw [← hd.out]; exact (LN.out fb j n i h hi).symm⟩
      generalize endI l (itemL (l.drop j)) = z at *
      cases fb with
      | true =>
        rcases GO.out (.inl rfl) with ⟨rfl, rfl⟩ | ⟨n, n1, n2, rfl, hn⟩
        · clear GO hd HIT LB LN LS LO IS HC HR
          go_wp2_with fail
          refine HJ.out.mono ?_
          rintro e w1 ⟨rfl, q, rfl⟩
          go_wp2_with fail
          go_ret
          exact ⟨rfl, below_drewN hb q⟩
        · have hn' := hide hn
          have z0 : ¬ (n : Int) < 0 := by omega
          clear GO hd HIT LB LN LS LO IS HC HR hn
          go_wp2_with fail
          refine HJ.out.mono ?_
          rintro e w1 ⟨rfl, q, rfl⟩
          go_wp2_with fail
          go_roundw
          case rel => exact ⟨n, false, n2, rfl, rfl, hn'.out, below_drewN hb q⟩
          case measure => simp [intOf]; omega
      | false =>
        by_cases hjl : j < l.length
        · have cj := (HC.out.below hb).cells j hjl
          have sj := HC.out.small l[j] (List.getElem_mem _)
          have j1 : (j : Int) < (l.length : Int) := by omega
          by_cases h3 : l[j] = 93
          · have d3 : ((l[j] : Int) != 93) = false := by rw [h3]; rfl
            have E := hide (hd.out.symm.trans (LS.out j hjl h3))
            clear GO hd HIT LB LN LS LO IS HC HR h3 HJ
            generalize l[j] = xj at *
            go_wp2_with fail
            go_ret
            exact ⟨ret_int E.out.symm, hb⟩
          · have d3 : ((l[j] : Int) != 93) = true := by rw [bne_iff_ne]; omega
            rcases GO.out (.inr ⟨hjl, h3⟩) with ⟨rfl, rfl⟩ | ⟨n, n1, n2, rfl, hn⟩
            · clear GO hd HIT LB LN LS LO IS HC HR h3
              generalize l[j] = xj at *
              go_wp2_with fail
              refine HJ.out.mono ?_
              rintro e w1 ⟨rfl, q, rfl⟩
              go_wp2_with fail
              go_ret
              exact ⟨rfl, below_drewN hb q⟩
            · have hn' := hide hn
              have z0 : ¬ (n : Int) < 0 := by omega
              clear GO hd HIT LB LN LS LO IS HC HR hn h3
              generalize l[j] = xj at *
              go_wp2_with fail
              refine HJ.out.mono ?_
              rintro e w1 ⟨rfl, q, rfl⟩
              go_wp2_with fail
              go_roundw
              case rel => exact ⟨n, false, n2, rfl, rfl, hn'.out, below_drewN hb q⟩
              case measure => simp [intOf]; omega
        · have j1 : ¬ (j : Int) < (l.length : Int) := by omega
          have E := hide (hd.out.symm.trans (LO.out j hjl))
          clear GO hd HIT LB LN LS LO IS HC HR HJ hjl
          go_wp2_with fail
          go_ret
          exact ⟨ret_int E.out.symm, hb⟩

end Go.Proofs.YtncljgpcloanfaaDoor
