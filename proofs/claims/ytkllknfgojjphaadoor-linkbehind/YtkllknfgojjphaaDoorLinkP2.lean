/- The program's way of telling absolute addresses, as lists of bytes: cuts, groups, names, hosts, servers, the whole: it ends as the document's does; plain facts of no program. No condition. -/
import Derived.Lib.Strings
import Derived.Test.YtkllknfgojjphaaDoorLinkP
namespace Go.Proofs.YtkllknfgojjphaaDoor
open Go.RowKit

/-- What stands behind the first place of a sign. -/
def tailL (c : UInt8) (l : List UInt8) : List UInt8 := l.drop (firstL c l + 1)
theorem has_iff (l : List UInt8) (c : UInt8) : hasB l c = true ↔ c ∈ l := by unfold hasB; simp
theorem has_no {l : List UInt8} {c : UInt8} (h : c ∉ l) : hasB l c = false := by
  cases e : hasB l c with
  | false => rfl
  | true => exact absurd ((has_iff l c).1 e) h
theorem cut_is (c : UInt8) (l : List UInt8) : Lib.cut l [c] = (headL c l, tailL c l, hasB l c) := by
  rcases first_cases c l with m | ⟨a, b, rfl, ha⟩
  · rw [cutc_no m, (head_none m).1, has_no m]
    unfold tailL
    rw [first_no m, List.drop_of_length_le (by omega)]
  · rw [cutc_yes ha, (head_cut b ha).1, (has_iff _ c).2 (by simp)]
    unfold tailL
    rw [first_app b ha, show a ++ c :: b = (a ++ [c]) ++ b by simp, List.drop_left' (by simp)]
theorem tail_is (c : UInt8) (l : List UInt8) : tailOk c l = fineL (tailL c l) := by
  unfold tailOk tailL
  by_cases h : l.length ≤ firstL c l
  · rw [decide_eq_true h, List.drop_of_length_le (by omega)]; exact fine_nil.symm
  · rw [decide_eq_false h]; rfl
theorem ixb_is (c : UInt8) (l : List UInt8) : Lib.indexByte l c = if firstL c l < l.length then (firstL c l : Int) else -1 := by
  rw [← Lib.index_one]
  rcases first_cases c l with m | ⟨a, b, rfl, ha⟩
  · rw [ix_none m, first_no m, if_neg (by omega)]
  · rw [ix_some ha, first_app b ha, if_pos (by simp)]

/-- Cut at the first two colons. -/
theorem ix_dbl : ∀ l : List UInt8, Lib.index l [58, 58] = match firstDbl l with | some k => (k : Int) | none => -1
  | [] => rfl
  | x :: l => by
    have ih := ix_dbl l
    unfold Lib.index firstDbl
    by_cases h : x = 58 ∧ l.head? = some 58
    · rw [if_pos h]
      obtain ⟨rfl, h2⟩ := h
      cases l with
      | nil => cases h2
      | cons y l =>
        have : y = 58 := by simpa using h2
        subst this
        rfl
    · rw [if_neg h]
      have : ([58, 58] : List UInt8).isPrefixOf (x :: l) = false := by
        cases l with
        | nil => show ((58 : UInt8) == x && false) = false; simp
        | cons y l =>
          show ((58 : UInt8) == x && ((58 : UInt8) == y && true)) = false
          rw [Bool.and_true, Bool.and_eq_false_iff]
          by_cases e : x = 58
          · right
            rw [beq_eq_false_iff_ne]
            intro q
            exact h ⟨e, by rw [← q]; rfl⟩
          · left; rw [beq_eq_false_iff_ne]; exact fun q => e q.symm
      rw [this, ih]
      cases firstDbl l with
      | none => rfl
      | some k =>
        have : ¬ ((k : Int) == -1) = true := by simp
        show (if false = true then _ else if ((k : Int) == -1) = true then -1 else (k : Int) + 1) = ((k + 1 : Nat) : Int)
        rw [if_neg (by simp), if_neg this]; rfl
theorem cut_dbl_some {l : List UInt8} {k : Nat} (h : firstDbl l = some k) : Lib.cut l [58, 58] = (l.take k, l.drop (k + 2), true) := by
  have := ix_dbl l
  rw [h] at this
  unfold Lib.cut
  rw [this, if_pos (by show (0 : Int) ≤ (k : Int); omega)]
  rfl
theorem cut_dbl_none {l : List UInt8} (h : firstDbl l = none) : Lib.cut l [58, 58] = (l, [], false) := by
  have := ix_dbl l
  rw [h] at this
  unfold Lib.cut
  rw [this, if_neg (by show ¬ (0 : Int) ≤ -1; omega)]
theorem dbl_at : ∀ {l : List UInt8} {k : Nat}, firstDbl l = some k → l = l.take k ++ 58 :: 58 :: l.drop (k + 2)
  | [], k, h => by cases h
  | x :: l, k, h => by
    unfold firstDbl at h
    split at h
    · rename_i g
      obtain ⟨rfl, h2⟩ := g
      cases h
      cases l with
      | nil => cases h2
      | cons y l =>
        have : y = 58 := by simpa using h2
        subst this
        rfl
    · cases e : firstDbl l with
      | none => rw [e] at h; cases h
      | some j =>
        rw [e] at h
        have : j + 1 = k := by simpa using h
        subst this
        have ih := dbl_at e
        rw [List.take_succ_cons, List.cons_append, show j + 1 + 2 = (j + 2) + 1 by omega, List.drop_succ_cons, ← ih]

/-- Groups. -/
def grpN (l : List UInt8) : Int := if 0 ≤ groupsL l then groupsL l else 0
def grpB (l : List UInt8) : Bool := decide (0 ≤ groupsL l)
theorem grpQ_nil : grpN [] = 0 ∧ grpB [] = true := by decide
theorem grp_all {l : List UInt8} (h : l ≠ []) (g : (splitL 58 l).all groupOk = true) : grpN l = ((splitL 58 l).length : Int) ∧ grpB l = true := by
  unfold grpN grpB groupsL
  rw [if_neg h, if_pos g, if_pos (by omega), decide_eq_true (by omega)]
  exact ⟨rfl, rfl⟩
theorem grp_bad {l : List UInt8} (h : l ≠ []) (g : (splitL 58 l).all groupOk = false) : grpN l = 0 ∧ grpB l = false := by
  unfold grpN grpB groupsL
  rw [if_neg h, g]
  exact ⟨rfl, rfl⟩
theorem sixQ_some {l : List UInt8} {k : Nat} (h : firstDbl l = some k) : sixL l = (grpB (l.take k) && (grpB (l.drop (k + 2)) && decide (grpN (l.take k) + grpN (l.drop (k + 2)) < 8))) := by
  unfold sixL
  rw [h]
  show (decide (0 ≤ groupsL (l.take k)) && (decide (0 ≤ groupsL (l.drop (k + 2))) && _)) = _
  unfold grpB grpN
  by_cases a : 0 ≤ groupsL (l.take k)
  · by_cases b : 0 ≤ groupsL (l.drop (k + 2))
    · rw [if_pos a, if_pos b]
    · rw [decide_eq_false b]; simp
  · rw [decide_eq_false a]; simp
theorem sixQ_none {l : List UInt8} (h : firstDbl l = none) : sixL l = (grpB l && decide (grpN l = 8)) := by
  unfold sixL
  rw [h]
  show decide (groupsL l = 8) = _
  unfold grpB grpN
  by_cases a : 0 ≤ groupsL l
  · rw [if_pos a, decide_eq_true a, Bool.true_and]
  · rw [decide_eq_false a, decide_eq_false (by omega)]; rfl
theorem grp_len (l : List UInt8) : 0 ≤ grpN l ∧ grpN l ≤ (splitL 58 l).length := by
  unfold grpN
  constructor
  · split
    · assumption
    · omega
  · split
    · unfold groupsL
      split
      · omega
      · split <;> omega
    · omega

/-- Names. -/
def labV (p : List UInt8) : Bool := p.all nameC && (!p.isEmpty && Lib.validD p)
def numOk (p : List UInt8) : Bool := decide (p.length ≤ 3) && upL 255 p
def endedB (ps : List (List UInt8)) : Bool := decide (1 < ps.length ∧ ps.getD (ps.length - 1) [] = [])
def nameQ (ps : List (List UInt8)) (e : Bool) : Bool := ps.all labV && (!(ps.getD (ps.length - 1) []).all isDg || (!e && (ps.all numOk && decide (ps.length = 4))))
theorem all_and {α : Type} (f g : α → Bool) : ∀ l : List α, (l.all fun x => f x && g x) = (l.all f && l.all g)
  | [] => rfl
  | x :: l => by
    rw [List.all_cons, List.all_cons, List.all_cons, all_and f g l]
    ac_rfl
theorem labV_is (p : List UInt8) : labV p = (labOk p && Lib.validD p) := by unfold labV labOk; ac_rfl
theorem labV_all (ps : List (List UInt8)) : ps.all labV = (ps.all labOk && ps.all Lib.validD) := by
  rw [← all_and]
  congr 1
  funext p
  exact labV_is p
theorem lab_ne {p : List UInt8} (h : labV p = true) : p ≠ [] := by
  intro e; subst e; cases h
theorem last_mem {ps : List (List UInt8)} (h : ps ≠ []) : ps.getD (ps.length - 1) [] ∈ ps := by
  have hl : 0 < ps.length := List.length_pos_iff.2 h
  rw [show ps.getD (ps.length - 1) [] = ps[ps.length - 1]'(by omega) by simp [List.getD, show ps.length - 1 < ps.length by omega]]
  exact List.getElem_mem _
theorem digs_ne {p : List UInt8} (h : p ≠ []) : digitsL p = p.all isDg := by
  cases p with
  | nil => exact absurd rfl h
  | cons => rfl
theorem nums_oct {ps : List (List UInt8)} (h : ps.all labV = true) : ps.all numOk = ps.all octOk := by
  rw [List.all_eq_true] at h
  rw [Bool.eq_iff_iff, List.all_eq_true, List.all_eq_true]
  constructor
  · intro g p hp
    rw [← up_oct (lab_ne (h p hp))]; exact g p hp
  · intro g p hp
    show (decide (p.length ≤ 3) && upL 255 p) = true
    rw [up_oct (lab_ne (h p hp))]; exact g p hp
theorem nameP_open {ps : List (List UInt8)} (hne : ps ≠ []) (h : endedB ps = false) : (ps.all Lib.validD && nameP ps) = nameQ ps false := by
  have h' := of_decide_eq_false h
  have hN : labN ps = ps.length := by unfold labN; rw [if_neg h']
  unfold nameP nameQ
  rw [hN, List.take_length]
  cases g : ps.all labV with
  | false =>
    rw [labV_all] at g
    rw [Bool.false_and, ← Bool.and_assoc, Bool.and_comm (ps.all Lib.validD), g, Bool.false_and]
  | true =>
    have g2 := g
    rw [labV_all, Bool.and_eq_true] at g2
    have hm := last_mem hne
    have := List.all_eq_true.1 g _ hm
    rw [g2.1, g2.2, Bool.true_and, Bool.true_and, Bool.true_and, digs_ne (lab_ne this), nums_oct g]
    congr 1
    rw [Bool.not_false, Bool.true_and, Bool.and_comm]
    congr 1
    simp
theorem nameP_ended {ps : List (List UInt8)} (h : endedB ps = true) : (ps.all Lib.validD && nameP ps) = nameQ (ps.take (ps.length - 1)) true := by
  have h' := of_decide_eq_true h
  have hN : labN ps = ps.length - 1 := by unfold labN; rw [if_pos h']
  have hl : (ps.take (ps.length - 1)).length = ps.length - 1 := by rw [List.length_take]; omega
  have e : ps = ps.take (ps.length - 1) ++ [[]] := by
    have hx := (List.take_append_drop (ps.length - 1) ps).symm
    rw [List.drop_eq_getElem_cons (by omega), show ps.length - 1 + 1 = ps.length by omega, List.drop_length] at hx
    have : ps[ps.length - 1]'(by omega) = [] := by
      have := h'.2
      rw [show ps.getD (ps.length - 1) [] = ps[ps.length - 1]'(by omega) by simp [List.getD, show ps.length - 1 < ps.length by omega]] at this
      exact this
    rw [this] at hx
    exact hx
  have hv : ps.all Lib.validD = (ps.take (ps.length - 1)).all Lib.validD := by
    conv => lhs; rw [e]
    rw [List.all_append]
    show (_ && true) = _
    rw [Bool.and_true]
  have hg : ps.getD (ps.length - 1 - 1) [] = (ps.take (ps.length - 1)).getD (ps.length - 1 - 1) [] := by
    simp only [List.getD]
    rw [List.getElem?_take, if_pos (by omega)]
  unfold nameP nameQ
  rw [hN, hv, hg, hl]
  have hne : ps.take (ps.length - 1) ≠ [] := fun q => by
    have := congrArg List.length q
    rw [hl] at this
    simp at this; omega
  have hm := last_mem hne
  rw [hl] at hm
  generalize ps.take (ps.length - 1) = qs at *
  rw [decide_eq_false (by omega), Bool.false_and, Bool.not_true, Bool.false_and, Bool.or_false, Bool.or_false]
  cases g : qs.all labV with
  | false =>
    rw [labV_all] at g
    rw [Bool.false_and, ← Bool.and_assoc, Bool.and_comm (qs.all Lib.validD), g, Bool.false_and]
  | true =>
    have g2 := g
    rw [labV_all, Bool.and_eq_true] at g2
    have := List.all_eq_true.1 g _ hm
    rw [g2.1, g2.2, Bool.true_and, Bool.true_and, Bool.true_and, digs_ne (lab_ne this)]
theorem name_open {l : List UInt8} (h : endedB (splitL 46 l) = false) : nameL l = nameQ (splitL 46 l) false := by
  unfold nameL
  rw [valid_split (c := 46) (by decide) _ l (Nat.le_refl _)]
  exact nameP_open (split_ne 46 l) h
theorem name_ended {l : List UInt8} (h : endedB (splitL 46 l) = true) : nameL l = nameQ ((splitL 46 l).take ((splitL 46 l).length - 1)) true := by
  unfold nameL
  rw [valid_split (c := 46) (by decide) _ l (Nat.le_refl _)]
  exact nameP_ended h

/-- Hosts. -/
theorem hostQ_name {l : List UInt8} (h : Lib.hasPrefix l [91] = false) : hostL l = nameL l := by
  unfold hostL
  rw [if_neg]
  intro e
  cases l with
  | nil => cases e
  | cons x l =>
    have : x = 91 := e
    subst this
    cases h
theorem snoc_cases (t : List UInt8) : t = [] ∨ ∃ m x, t = m ++ [x] := by
  rcases List.eq_nil_or_concat t with h | ⟨m, x, h⟩
  · exact .inl h
  · exact .inr ⟨m, x, by rw [h]; simp⟩
theorem hostQ_six {t : List UInt8} : hostL (91 :: t) = (Lib.hasSuffix t [93] && sixL (Lib.trimSuffix t [93])) := by
  rcases snoc_cases t with rfl | ⟨m, x, rfl⟩
  · rfl
  · have e1 : Lib.hasSuffix (m ++ [x]) [93] = (x == 93) := by
      unfold Lib.hasSuffix
      rw [Bool.eq_iff_iff, List.isSuffixOf_iff_suffix, beq_iff_eq]
      constructor
      · rintro ⟨p, hp⟩
        have := congrArg List.getLast? hp
        simpa using this.symm
      · rintro rfl; exact ⟨m, rfl⟩
    unfold hostL
    have hl : (91 :: (m ++ [x])).length = m.length + 2 := by simp
    have e2 : (91 :: (m ++ [x])).getD ((91 :: (m ++ [x])).length - 1) 0 = x := by
      rw [hl]
      show (91 :: (m ++ [x])).getD (m.length + 1) 0 = x
      simp [List.getD]
    have e3 : ((91 :: (m ++ [x])).take ((91 :: (m ++ [x])).length - 1)).drop 1 = m := by
      rw [hl]
      show ((91 :: (m ++ [x])).take (m.length + 1)).drop 1 = m
      simp
    rw [if_pos (show (91 :: (m ++ [x])).getD 0 0 = 91 from rfl), e2, e3, decide_eq_true (by rw [hl]; omega), Bool.true_and, e1]
    cases hx : (x == 93) with
    | false => rfl
    | true =>
      unfold Lib.trimSuffix
      rw [e1, if_pos hx, show (m ++ [x]).length - [(93 : UInt8)].length = m.length by simp, List.take_left' rfl]
theorem split_cover {c d : UInt8} (h : c ≠ d) : ∀ (n : Nat) (l : List UInt8), l.length ≤ n → c ∈ l → ∃ p ∈ splitL d l, c ∈ p
  | 0, l, hl, m => by
    have : l = [] := List.eq_nil_of_length_eq_zero (by omega)
    subst this; cases m
  | n + 1, l, hl, m => by
    rcases first_cases d l with q | ⟨a, b, rfl, ha⟩
    · rw [split_alone q]; exact ⟨l, by simp, m⟩
    · rw [split_sign b ha]
      rcases List.mem_append.1 m with g | g
      · exact ⟨a, by simp, g⟩
      · rcases List.mem_cons.1 g with g | g
        · exact absurd g h
        · obtain ⟨p, hp, hc⟩ := split_cover h n b (by rw [List.length_append, List.length_cons] at hl; omega) g
          exact ⟨p, List.mem_cons_of_mem _ hp, hc⟩
theorem name_mem {l : List UInt8} (h : nameL l = true) {c : UInt8} (hc : c ∈ l) (h46 : c ≠ 46) : nameC c = true := by
  obtain ⟨p, hp, hcp⟩ := split_cover h46 _ l (Nat.le_refl _) hc
  have key : ∀ qs : List (List UInt8), p ∈ qs → ∀ e, nameQ qs e = true → nameC c = true := by
    intro qs hq e hQ
    unfold nameQ at hQ
    rw [Bool.and_eq_true] at hQ
    have := List.all_eq_true.1 hQ.1 p hq
    unfold labV at this
    rw [Bool.and_eq_true] at this
    exact List.all_eq_true.1 this.1 c hcp
  cases he : endedB (splitL 46 l) with
  | false => rw [name_open he] at h; exact key _ hp _ h
  | true =>
    rw [name_ended he] at h
    refine key _ ?_ _ h
    have hE := of_decide_eq_true he
    obtain ⟨j, hj, e⟩ := List.getElem_of_mem hp
    rcases Nat.lt_or_ge j ((splitL 46 l).length - 1) with q | q
    · rw [← e]
      exact List.mem_take_iff_getElem.2 ⟨j, by omega, rfl⟩
    · exfalso
      have : j = (splitL 46 l).length - 1 := by omega
      subst this
      have h2 := hE.2
      rw [show (splitL 46 l).getD ((splitL 46 l).length - 1) [] = (splitL 46 l)[(splitL 46 l).length - 1] by simp [List.getD, hj], e] at h2
      rw [h2] at hcp; cases hcp
theorem groups_64 {l : List UInt8} (h : grpB l = true) : (64 : UInt8) ∉ l := by
  intro m
  have h := of_decide_eq_true h
  unfold groupsL at h
  have hne : l ≠ [] := fun e => by subst e; cases m
  rw [if_neg hne] at h
  obtain ⟨p, hp, hc⟩ := split_cover (d := 58) (by decide) _ l (Nat.le_refl _) m
  split at h
  · rename_i g
    have := List.all_eq_true.1 g p hp
    unfold groupOk at this
    rw [Bool.and_eq_true] at this
    have := List.all_eq_true.1 this.2 64 hc
    revert this; decide
  · omega
theorem six_64 {l : List UInt8} (h : sixL l = true) : (64 : UInt8) ∉ l := by
  cases e : firstDbl l with
  | none =>
    rw [sixQ_none e, Bool.and_eq_true] at h
    exact groups_64 h.1
  | some k =>
    rw [sixQ_some e, Bool.and_eq_true, Bool.and_eq_true] at h
    intro m
    rw [dbl_at e] at m
    rcases List.mem_append.1 m with g | g
    · exact groups_64 h.1 g
    · rcases List.mem_cons.1 g with g | g
      · cases g
      · rcases List.mem_cons.1 g with g | g
        · cases g
        · exact groups_64 h.2.1 g
theorem host_shape (l : List UInt8) : Lib.hasPrefix l [91] = false ∨ ∃ t, l = 91 :: t := by
  cases l with
  | nil => exact .inl rfl
  | cons x l =>
    by_cases e : x = 91
    · exact .inr ⟨l, by rw [e]⟩
    · left
      show ((91 : UInt8) == x && true) = false
      rw [Bool.and_true, beq_eq_false_iff_ne]
      exact fun q => e q.symm
theorem suf_93 {t : List UInt8} (h : Lib.hasSuffix t [93] = true) : ∃ m, t = m ++ [93] ∧ Lib.trimSuffix t [93] = m := by
  have h2 := h
  unfold Lib.hasSuffix at h
  rw [List.isSuffixOf_iff_suffix] at h
  obtain ⟨m, rfl⟩ := h
  refine ⟨m, rfl, ?_⟩
  unfold Lib.trimSuffix
  rw [if_pos h2, show (m ++ [(93 : UInt8)]).length - [(93 : UInt8)].length = m.length by simp, List.take_left' rfl]
theorem host_64 {l : List UInt8} (h : hostL l = true) : (64 : UInt8) ∉ l := by
  rcases host_shape l with g | ⟨t, rfl⟩
  · rw [hostQ_name g] at h
    intro m
    have := name_mem h m (by decide)
    rw [name_64] at this; cases this
  · rw [hostQ_six, Bool.and_eq_true] at h
    obtain ⟨m, rfl, e⟩ := suf_93 h.1
    rw [e] at h
    intro q
    rcases List.mem_cons.1 q with q | q
    · cases q
    · rcases List.mem_append.1 q with q | q
      · exact six_64 h.2 q
      · simp at q
theorem host_colon {l : List UInt8} (h : hostL l = true) : ¬ lastL 93 l < lastL 58 l := by
  rcases host_shape l with g | ⟨t, rfl⟩
  · rw [hostQ_name g] at h
    have : (58 : UInt8) ∉ l := fun m => by
      have := name_mem h m (by decide)
      rw [name_58] at this; cases this
    rw [last_no this]
    have := last_ge 93 l
    omega
  · rw [hostQ_six, Bool.and_eq_true] at h
    obtain ⟨m, rfl, e⟩ := suf_93 h.1
    have h1 : lastL 93 ((91 :: m) ++ 93 :: []) = (91 :: m).length := last_app (91 :: m) (by simp)
    have h2 := last_lt 58 ((91 :: m) ++ 93 :: [])
    rw [show 91 :: (m ++ [93]) = (91 :: m) ++ 93 :: [] by simp, h1]
    simp only [List.length_append, List.length_cons, List.length_nil] at h2 ⊢
    omega

/-- A host with a port, a server. -/
theorem last_drop {c : UInt8} {l : List UInt8} (h : 0 ≤ lastL c l) : l = l.take (lastL c l).toNat ++ c :: l.drop ((lastL c l).toNat + 1) ∧ c ∉ l.drop ((lastL c l).toNat + 1) := by
  have m : c ∈ l := by
    by_cases q : c ∈ l
    · exact q
    · rw [last_no q] at h; omega
  obtain ⟨a, b, e, hb⟩ := last_split m
  have hk : lastL c l = a.length := by rw [e]; exact last_app a hb
  rw [hk, show ((a.length : Int)).toNat = a.length by omega]
  rw [e, List.take_left' rfl, show a ++ c :: b = (a ++ [c]) ++ b by simp, List.drop_left' (by simp)]
  exact ⟨by simp, hb⟩
def portQ (l : List UInt8) : Bool := hostL l || (decide (0 ≤ lastL 58 l) && (hostL (l.take (lastL 58 l).toNat) && upL 65535 (l.drop ((lastL 58 l).toNat + 1))))
theorem up_mem {l : List UInt8} {c : UInt8} (m : c ∈ l) (h : isDg c = false) : upL 65535 l = false := by
  unfold upL
  rw [up_is (by decide) l 0 (by omega)]
  have : l.all isDg = false := by
    rw [List.all_eq_false]
    exact ⟨c, m, by rw [h]; simp⟩
  rw [this]; rfl
theorem port_is (l : List UInt8) : portQ l = portL l := by
  unfold portQ portL
  cases h : hostL l with
  | true => rw [if_neg (host_colon h)]; rfl
  | false =>
    rw [Bool.false_or]
    have h93 := last_ge 93 l
    split
    · rename_i g
      rw [decide_eq_true (by omega), Bool.true_and, up_port, Bool.and_comm]
    · rename_i g
      by_cases q : 0 ≤ lastL 58 l
      · have ⟨e, _⟩ := last_drop q
        have h0 : 0 ≤ lastL 93 l := by omega
        have ⟨e2, _⟩ := last_drop h0
        have : (93 : UInt8) ∈ l.drop ((lastL 58 l).toNat + 1) := by
          have hne : lastL 58 l ≠ lastL 93 l := fun x => by
            rw [x] at e
            have hx := List.append_inj_right (e.symm.trans e2) rfl
            cases hx
          have hlt := last_lt 93 l
          have hk : l[(lastL 93 l).toNat]'(by omega) = 93 := by
            have hlen : (l.take (lastL 93 l).toNat).length = (lastL 93 l).toNat := by rw [List.length_take]; omega
            have : ∀ k : Nat, k = (lastL 93 l).toNat → l[k]? = some 93 := by
              intro k hk
              rw [e2, List.getElem?_append_right (by omega), hlen, hk, Nat.sub_self]; rfl
            have := this _ rfl
            rw [List.getElem?_eq_getElem (by omega)] at this
            exact Option.some.inj this
          rw [← hk]
          refine List.mem_drop_iff_getElem.2 ⟨(lastL 93 l).toNat - ((lastL 58 l).toNat + 1), by omega, ?_⟩
          congr 1
          omega
        rw [up_mem this dg_93, Bool.and_false, Bool.and_false]
      · rw [decide_eq_false q]; rfl
theorem port_64 {l : List UInt8} (m : (64 : UInt8) ∈ l) : portL l = false := by
  rw [← port_is]
  unfold portQ
  have h1 : hostL l = false := by
    cases e : hostL l with
    | false => rfl
    | true => exact absurd m (host_64 e)
  rw [h1, Bool.false_or]
  by_cases q : 0 ≤ lastL 58 l
  · have ⟨e, _⟩ := last_drop q
    rw [e] at m
    rcases List.mem_append.1 m with g | g
    · have : hostL (l.take (lastL 58 l).toNat) = false := by
        cases e : hostL (l.take (lastL 58 l).toNat) with
        | false => rfl
        | true => exact absurd g (host_64 e)
      rw [this]; simp
    · rcases List.mem_cons.1 g with g | g
      · cases g
      · rw [up_mem g dg_64]; simp
  · rw [decide_eq_false q]; rfl
theorem server_none {l : List UInt8} (h : (64 : UInt8) ∉ l) : serverL l = portL l := by
  unfold serverL
  rw [last_no h, if_neg (by omega)]
theorem server_cut {a : List UInt8} (b : List UInt8) (h : (64 : UInt8) ∉ a) : serverL (a ++ 64 :: b) = (fineL a && portL b) := by
  unfold serverL
  by_cases m : (64 : UInt8) ∈ b
  · obtain ⟨x, y, rfl, hy⟩ := last_split m
    have e : a ++ 64 :: (x ++ 64 :: y) = (a ++ 64 :: x) ++ 64 :: y := by simp
    have hl : lastL 64 (a ++ 64 :: (x ++ 64 :: y)) = (a ++ 64 :: x).length := by rw [e]; exact last_app _ hy
    rw [hl, first_app _ h, if_pos (by omega), port_64 m, decide_eq_false (by simp; omega)]
    simp
  · have hl : lastL 64 (a ++ 64 :: b) = a.length := last_app a m
    rw [hl, first_app b h, if_pos (by omega), decide_eq_true rfl, show ((a.length : Int)).toNat = a.length by omega, List.take_left' rfl, show a ++ 64 :: b = (a ++ [64]) ++ b by simp, List.drop_left' (by simp), Bool.true_and]
theorem server_is (l : List UInt8) : serverL l = if hasB l 64 then fineL (headL 64 l) && portL (tailL 64 l) else portL l := by
  rcases first_cases 64 l with m | ⟨a, b, rfl, ha⟩
  · rw [has_no m, server_none m]; rfl
  · rw [(has_iff _ _).2 (by simp), if_pos rfl, server_cut b ha, (head_cut b ha).1]
    unfold tailL
    rw [first_app b ha, show a ++ 64 :: b = (a ++ [64]) ++ b by simp, List.drop_left' (by simp)]

/-- The whole. -/
theorem two_is (p : List UInt8) : Lib.hasPrefix p [47, 47] = twoB p := by
  unfold twoB
  rcases p with _ | ⟨a, _ | ⟨b, t⟩⟩
  · rfl
  · show ((47 : UInt8) == a && false) = (decide (1 < [a].length) && _); simp
  · show ((47 : UInt8) == a && ((47 : UInt8) == b && true)) = _
    rw [decide_eq_true (by simp), Bool.true_and, Bool.and_true]
    show ((47 : UInt8) == a && (47 : UInt8) == b) = (a == 47 && b == 47)
    rw [Bool.beq_comm (a := a), Bool.beq_comm (a := b)]
theorem one_is (p : List UInt8) : Lib.hasPrefix p [47] = (!p.isEmpty && p.getD 0 0 == 47) := by
  rcases p with _ | ⟨a, t⟩
  · rfl
  · show ((47 : UInt8) == a && true) = (true && a == 47)
    rw [Bool.and_true, Bool.true_and, Bool.beq_comm (a := a)]
def specQ (p : List UInt8) : Bool := twoB p && (serverL (nameOf p) && fineL (pathOf p))
def loclQ (p : List UInt8) : Bool := if twoB p then ((nameOf p).isEmpty || hostL (nameOf p)) && fineL (pathOf p) else Lib.hasPrefix p [47] && fineL p
def othQ (p : List UInt8) : Bool := if twoB p then ((nameOf p).isEmpty || serverL (nameOf p)) && fineL (pathOf p) else fineL p
theorem core_spec {sc : List UInt8} (p : List UInt8) (h : spec sc = true) : coreL sc p = specQ p := by
  unfold coreL specQ
  rw [if_pos h, if_pos h]
  cases twoB p with
  | false => simp
  | true => rw [if_pos rfl, Bool.true_and, Bool.and_comm]
theorem core_locl {sc : List UInt8} (p : List UInt8) (h : spec sc = false) (g : locl sc = true) : coreL sc p = loclQ p := by
  unfold coreL loclQ
  rw [h, g, one_is]
  cases twoB p with
  | false => show (fineL p && _) = (_ && fineL p); rw [Bool.and_comm]; rfl
  | true => show (fineL (pathOf p) && _) = (_ && fineL (pathOf p)); rw [Bool.and_comm]; rfl
theorem core_oth {sc : List UInt8} (p : List UInt8) (h : spec sc = false) (g : locl sc = false) : coreL sc p = othQ p := by
  unfold coreL othQ
  rw [h, g]
  cases twoB p with
  | false => show (fineL p && true) = fineL p; rw [Bool.and_true]
  | true => show (fineL (pathOf p) && _) = (_ && fineL (pathOf p)); rw [Bool.and_comm]; rfl
theorem body_is (sc r : List UInt8) : bodyL sc r = (fineL (tailL 35 r) && (fineL (tailL 63 (headL 35 r)) && coreL sc (headL 63 (headL 35 r)))) := by
  unfold bodyL
  rw [tail_is, tail_is]
theorem head_len (c : UInt8) (l : List UInt8) : (headL c l).length ≤ l.length := by unfold headL; rw [List.length_take]; omega
theorem tail_len (c : UInt8) (l : List UInt8) : (tailL c l).length ≤ l.length := by unfold tailL; rw [List.length_drop]; omega
theorem nameOf_len (p : List UInt8) : (nameOf p).length ≤ p.length := by unfold nameOf; rw [List.length_take, List.length_drop]; omega
theorem pathOf_len (p : List UInt8) : (pathOf p).length ≤ p.length := by unfold pathOf; rw [List.length_drop, List.length_drop]; omega

end Go.Proofs.YtkllknfgojjphaaDoor
