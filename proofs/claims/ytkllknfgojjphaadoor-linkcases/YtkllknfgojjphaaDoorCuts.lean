/- A text cut at a sign, and the texts between a sign, as the library's strings.Cut and strings.Split have them: plain facts of no program. No condition. -/
import Derived.Lib.SplitLaws
import Derived.Lib.Join
import Derived.Test.YtkllknfgojjphaaDoorMail
namespace Go.Proofs.YtkllknfgojjphaaDoor
open Go.RowKit

theorem ix_none {c : UInt8} {l : List UInt8} (h : c ∉ l) : Lib.index l [c] = -1 := by
  rw [Lib.index_one]
  induction l with
  | nil => rfl
  | cons b l ih =>
    have hb : b ≠ c := fun x => h (by rw [x]; exact List.mem_cons_self ..)
    have := ih (fun x => h (List.mem_cons_of_mem _ x))
    unfold Lib.indexByte
    rw [this]; simp [hb]
theorem ix_some {c : UInt8} {a b : List UInt8} (h : c ∉ a) : Lib.index (a ++ c :: b) [c] = (a.length : Int) := by
  rw [Lib.index_one]
  induction a with
  | nil => simp [Lib.indexByte]
  | cons x a ih =>
    have hb : x ≠ c := fun e => h (by rw [e]; exact List.mem_cons_self ..)
    have := ih (fun e => h (List.mem_cons_of_mem _ e))
    rw [List.cons_append]
    unfold Lib.indexByte
    have h0 : ¬ ((a.length : Int) == -1) = true := by simp
    rw [this, if_neg (by simpa using hb), if_neg h0]; simp
theorem cutc_no {c : UInt8} {l : List UInt8} (h : c ∉ l) : Lib.cut l [c] = (l, [], false) := by
  unfold Lib.cut; rw [ix_none h]; rfl
theorem cutc_yes {c : UInt8} {a b : List UInt8} (h : c ∉ a) : Lib.cut (a ++ c :: b) [c] = (a, b, true) := by
  unfold Lib.cut; rw [ix_some h, if_pos (by omega)]
  simp
/-- A text with the sign, cut at the first one. -/
theorem ix_first {c : UInt8} : ∀ {l : List UInt8}, c ∈ l → ∃ a b, l = a ++ c :: b ∧ c ∉ a
  | [], h => by cases h
  | x :: l, h => by
    by_cases e : x = c
    · subst e; exact ⟨[], l, rfl, by simp⟩
    · rcases List.mem_cons.1 h with h1 | h1
      · exact absurd h1.symm e
      · obtain ⟨a, b, rfl, h2⟩ := ix_first h1
        refine ⟨x :: a, b, rfl, fun h3 => ?_⟩
        rcases List.mem_cons.1 h3 with h4 | h4
        · exact e h4.symm
        · exact h2 h4
theorem splitK_is (c : UInt8) : ∀ (k : Nat) (l : List UInt8), l.count c = k → Lib.splitK [c] 0 k l = splitL c l
  | 0, l, h => by
    have hn : c ∉ l := fun m => by have := List.count_pos_iff.2 m; omega
    rw [split_alone hn]; rfl
  | k + 1, l, h => by
    have hm : c ∈ l := List.count_pos_iff.1 (by omega)
    obtain ⟨a, b, rfl, ha⟩ := ix_first hm
    have hc : b.count c = k := by
      rw [List.count_append, List.count_eq_zero_of_not_mem ha, List.count_cons_self] at h
      omega
    have h0 : ¬ ((a.length : Int) == -1) = true := by simp
    rw [Lib.splitK, ix_some ha, if_neg h0, split_sign b ha, ← splitK_is c k b hc]
    have e1 : ((a.length : Int)).toNat = a.length := by omega
    rw [e1]
    simp
/-- The library's pieces. -/
theorem pieces_is (c : UInt8) (s : ByteArray) : Lib.splitB ⟨#[c]⟩ 0 (Lib.countB s ⟨#[c]⟩) s = (splitL c s.data.toList).map txt := by
  have h1 := Lib.splitB_data ⟨#[c]⟩ 0 (Lib.countB s ⟨#[c]⟩) s
  have h2 : Lib.countB s ⟨#[c]⟩ = s.data.toList.count c := Lib.count_one c s.data.toList
  have h3 : (⟨#[c]⟩ : ByteArray).data.toList = [c] := rfl
  rw [h3, splitK_is c _ _ h2.symm] at h1
  rw [← h1, List.map_map]
  exact (List.map_id _).symm
theorem pieces_count (c : UInt8) (s : ByteArray) : Lib.countB s ⟨#[c]⟩ + 1 = (splitL c s.data.toList).length := by
  have := Lib.splitB_all ⟨#[c]⟩ (Nat.le_refl 1) 0 _ s rfl
  rw [pieces_is, List.length_map] at this
  exact this.symm
theorem join_is (c : UInt8) : ∀ ps : List (List UInt8), Lib.join ps [c] = joinL c ps
  | [] => rfl
  | [a] => Lib.join_one a [c]
  | a :: b :: t => by
    have ih := join_is c (b :: t)
    rw [Lib.join_cons] at ih
    rw [Lib.join_cons]
    show a ++ ([c] ++ b ++ Lib.joinTail [c] t) = a ++ c :: joinL c (b :: t)
    rw [← ih]; simp

/-- Is a text letters, digits and the signs 'more' alone? -/
def madeC (more : List UInt8) (c : UInt8) : Bool := plainB c || hasB more c
def madeL (more l : List UInt8) : Bool := l.all (madeC more)
theorem user_made (u : List UInt8) : userOk u = (!u.isEmpty && madeL mailSg u) := rfl
theorem plain_45 : plainB 45 = false := by decide
theorem made_45 (c : UInt8) : madeC [45] c = true ↔ plainB c = true ∨ c = 45 := by
  unfold madeC hasB
  rw [Bool.or_eq_true]
  simp
theorem getD_mem {l : List UInt8} {k : Nat} (h : k < l.length) : l.getD k 0 ∈ l := by
  rw [show l.getD k 0 = l[k] by simp [List.getD, h]]
  exact List.getElem_mem _
theorem label_made {l : List UInt8} (h1 : 1 ≤ l.length) (h2 : l.length ≤ 63) : labelL l = (l.getD 0 0 != 45 && l.getD (l.length - 1) 0 != 45 && madeL [45] l) := by
  rw [Bool.eq_iff_iff, label_iff, Bool.and_eq_true, Bool.and_eq_true, bne_iff_ne, bne_iff_ne]
  unfold madeL
  rw [List.all_eq_true]
  constructor
  · rintro ⟨_, h⟩
    refine ⟨⟨fun e => ?_, fun e => ?_⟩, fun c hc => ?_⟩
    · have := h 0 (by omega)
      unfold labAt at this
      rw [e, plain_45] at this
      simp at this
    · have := h (l.length - 1) (by omega)
      unfold labAt at this
      rw [e, plain_45] at this
      simp at this
      omega
    · obtain ⟨k, hk, rfl⟩ := List.getElem_of_mem hc
      have := h k hk
      unfold labAt at this
      rw [show l.getD k 0 = l[k] by simp [List.getD, hk]] at this
      rw [made_45]
      rw [Bool.or_eq_true, Bool.and_eq_true, Bool.and_eq_true, beq_iff_eq] at this
      rcases this with g | g
      · exact .inl g
      · exact .inr g.1.1
  · rintro ⟨⟨g1, g2⟩, h⟩
    refine ⟨⟨h1, h2⟩, fun k hk => ?_⟩
    have := (made_45 _).1 (h _ (getD_mem hk))
    unfold labAt
    rw [Bool.or_eq_true, Bool.and_eq_true, Bool.and_eq_true, beq_iff_eq, decide_eq_true_eq, decide_eq_true_eq]
    rcases this with g | g
    · exact .inl g
    · refine .inr ⟨⟨g, fun e => g1 (by rw [← e]; exact g)⟩, fun e => g2 (by rw [show l.length - 1 = k by omega]; exact g)⟩
theorem label_short {l : List UInt8} (h : ¬ (1 ≤ l.length ∧ l.length ≤ 63)) : labelL l = false := by
  unfold labelL; rw [decide_eq_false h]; rfl

end Go.Proofs.YtkllknfgojjphaaDoor
