/- Runs of blanks within a text, as lists of bytes: words with one blank between them, and the same byte by byte: plain facts of no program. No condition. -/
import Derived.Test.YtgfbcooeilodmaaDoorStrip
namespace Go.Proofs.YtgfbcooeilodmaaDoor
open Go.RowKit

/-- Byte by byte: 0: nothing was told yet; 1: within a word; 2: blanks behind a word. -/
def colF : Nat → List UInt8 → List UInt8
  | _, [] => []
  | st, c :: r => if isBl c then colF (if st = 0 then 0 else 2) r else (if st = 2 then [32, c] else [c]) ++ colF 1 r
def collapseL (l : List UInt8) : List UInt8 := colF 0 l
def collapseS (s : ByteArray) : ByteArray := txt (collapseL s.data.toList)

theorem colF_bl {st : Nat} {c : UInt8} {r : List UInt8} (h : isBl c = true) : colF st (c :: r) = colF (if st = 0 then 0 else 2) r := by
  show (if isBl c then _ else _) = _; rw [if_pos h]
theorem colF_no {st : Nat} {c : UInt8} {r : List UInt8} (h : isBl c = false) : colF st (c :: r) = (if st = 2 then [32, c] else [c]) ++ colF 1 r := by
  show (if isBl c then _ else _) = _; rw [if_neg (by rw [h]; decide)]
theorem colF_snoc {b : UInt8} (h : isBl b = true) : ∀ (l : List UInt8) (st : Nat), colF st (l ++ [b]) = colF st l
  | [], st => by rw [List.nil_append, colF_bl h]; rfl
  | c :: r, st => by
    cases hc : isBl c with
    | true => rw [List.cons_append, colF_bl hc, colF_bl hc, colF_snoc h r]
    | false => rw [List.cons_append, colF_no hc, colF_no hc, colF_snoc h r]
theorem colF_right (st : Nat) : ∀ m : List UInt8, colF st (m.dropWhile (fun x => blanks.contains x)).reverse = colF st m.reverse
  | [] => rfl
  | b :: r => by
    rw [List.dropWhile_cons]
    cases hb : blanks.contains b with
    | true => rw [if_pos rfl, colF_right st r, List.reverse_cons, colF_snoc hb]
    | false => rw [if_neg (by decide)]
theorem colF_left : ∀ m : List UInt8, colF 0 (m.dropWhile (fun x => blanks.contains x)) = colF 0 m
  | [] => rfl
  | b :: r => by
    rw [List.dropWhile_cons]
    cases hb : blanks.contains b with
    | true => rw [if_pos rfl, colF_left r, colF_bl hb, if_pos rfl]
    | false => rw [if_neg (by decide)]
theorem collapse_strip (l : List UInt8) : collapseL (stripL l) = collapseL l := by
  unfold collapseL stripL Lib.trimS Lib.trimLeftS Lib.trimRightS
  rw [colF_left]
  have := colF_right 0 l.reverse
  rw [List.reverse_reverse] at this
  exact this

/-- What the program tells at a byte c behind a byte p. -/
def cpiece (p c : UInt8) : List UInt8 := if isBl c then (if isBl p then [] else [32]) else [c]
def colP : UInt8 → List UInt8 → List UInt8
  | _, [] => []
  | p, c :: r => cpiece p c ++ colP c r
theorem colP_snoc (c : UInt8) : ∀ (l : List UInt8) (p : UInt8), colP p (l ++ [c]) = colP p l ++ cpiece (l.getLastD p) c
  | [], p => by simp [colP]
  | a :: r, p => by
    have ih := colP_snoc c r a
    have hl : (a :: r).getLastD p = r.getLastD a := by cases r <;> rfl
    show cpiece p a ++ colP a (r ++ [c]) = cpiece p a ++ colP a r ++ _
    rw [ih, hl, List.append_assoc]
def LastNo (l : List UInt8) : Prop := ∀ b, l.getLast? = some b → isBl b = false
theorem lastNo_tail {c : UInt8} {r : List UInt8} (h : LastNo (c :: r)) : LastNo r := fun b hb => h b (last_of_suffix (List.suffix_cons c r) hb)
theorem lastNo_ne {c : UInt8} {r : List UInt8} (h : LastNo (c :: r)) (hc : isBl c = true) : r ≠ [] := by
  intro e; subst e; have := h c rfl; rw [hc] at this; cases this
theorem colF_colP : ∀ (l : List UInt8) (p : UInt8), LastNo l → (isBl p = false → colF 1 l = colP p l) ∧ (isBl p = true → l ≠ [] → colF 2 l = 32 :: colP p l)
  | [], p, _ => ⟨fun _ => rfl, fun _ h => absurd rfl h⟩
  | c :: r, p, h => by
    have ih := colF_colP r c (lastNo_tail h)
    cases hc : isBl c with
    | true =>
      have hne := lastNo_ne h hc
      constructor
      · intro hp
        rw [colF_bl hc, if_neg (by decide), ih.2 hc hne]
        show _ = cpiece p c ++ colP c r
        unfold cpiece; rw [if_pos hc, if_neg (by rw [hp]; decide)]; rfl
      · intro hp _
        rw [colF_bl hc, if_neg (by decide), ih.2 hc hne]
        show _ = 32 :: (cpiece p c ++ colP c r)
        unfold cpiece; rw [if_pos hc, if_pos hp]; rfl
    | false =>
      constructor
      · intro hp
        rw [colF_no hc, if_neg (by decide), ih.1 hc]
        show _ = cpiece p c ++ colP c r
        unfold cpiece; rw [if_neg (by rw [hc]; decide)]
      · intro hp _
        rw [colF_no hc, if_pos rfl, ih.1 hc]
        show _ = 32 :: (cpiece p c ++ colP c r)
        unfold cpiece; rw [if_neg (by rw [hc]; decide)]; rfl
theorem colP_strip (l : List UInt8) (p : UInt8) : colP p (stripL l) = collapseL l := by
  rw [← collapse_strip]
  have he := stripL_ends l
  generalize stripL l = m at *
  unfold collapseL
  cases m with
  | nil => rfl
  | cons c r =>
    have hc := he.1 c rfl
    rw [colF_no hc, if_neg (by decide), ((colF_colP r c (lastNo_tail he.2)).1 hc)]
    show cpiece p c ++ colP c r = _
    unfold cpiece; rw [if_neg (by rw [hc]; decide)]

theorem colF_last : ∀ (l : List UInt8) (st : Nat), LastNo (colF st l)
  | [], _ => fun b hb => by cases hb
  | c :: r, st => by
    cases hc : isBl c with
    | true => rw [colF_bl hc]; exact colF_last r _
    | false =>
      rw [colF_no hc]
      intro b hb
      have ih := colF_last r 1
      rw [List.getLast?_append] at hb
      cases hx : (colF 1 r).getLast? with
      | some x => rw [hx] at hb; simp at hb; subst hb; exact ih x hx
      | none =>
        rw [hx] at hb
        have : (if st = 2 then [32, c] else [c]).getLast? = some c := by split <;> rfl
        rw [this] at hb; simp at hb; subst hb; exact hc
theorem colF_head : ∀ (l : List UInt8), ∀ b, (colF 0 l).head? = some b → isBl b = false
  | [], b, hb => by cases hb
  | c :: r, b, hb => by
    cases hc : isBl c with
    | true => rw [colF_bl hc, if_pos rfl] at hb; exact colF_head r b hb
    | false => rw [colF_no hc, if_neg (by decide)] at hb; simp at hb; subst hb; exact hc
theorem collapse_ends (l : List UInt8) : Ends (collapseL l) := ⟨colF_head l, colF_last l 0⟩
theorem colF_again : ∀ (l : List UInt8), colF 1 (colF 1 l) = colF 1 l ∧ colF 1 (colF 2 l) = colF 2 l
  | [] => ⟨rfl, rfl⟩
  | c :: r => by
    have ih := colF_again r
    cases hc : isBl c with
    | true => rw [colF_bl hc, colF_bl hc, if_neg (by decide), if_neg (by decide)]; exact ⟨ih.2, ih.2⟩
    | false =>
      rw [colF_no hc, colF_no hc, if_neg (by decide), if_pos rfl]
      constructor
      · show colF 1 (c :: colF 1 r) = _
        rw [colF_no hc, if_neg (by decide), ih.1]
      · show colF 1 (32 :: c :: colF 1 r) = _
        rw [colF_bl (by decide), if_neg (by decide), colF_no hc, if_pos rfl, ih.1]
theorem collapse_again : ∀ (l : List UInt8), collapseL (collapseL l) = collapseL l
  | [] => rfl
  | c :: r => by
    unfold collapseL
    cases hc : isBl c with
    | true => rw [colF_bl hc, if_pos rfl]; exact collapse_again r
    | false =>
      rw [colF_no hc, if_neg (by decide)]
      show colF 0 (c :: colF 1 r) = _
      rw [colF_no hc, if_neg (by decide), (colF_again r).1]
theorem colF_le : ∀ (l : List UInt8) (st : Nat), (colF st l).length ≤ 2 * l.length
  | [], _ => by simp [colF]
  | c :: r, st => by
    cases hc : isBl c with
    | true => rw [colF_bl hc]; have := colF_le r (if st = 0 then 0 else 2); simp only [List.length_cons]; omega
    | false =>
      rw [colF_no hc]
      have := colF_le r 1
      have h2 : (if st = 2 then [32, c] else [c]).length ≤ 2 := by split <;> simp
      simp only [List.length_append, List.length_cons]; omega

/-- The words: runs of bytes that are no blanks; 'cur': the one that is being read. -/
def wordsG : List UInt8 → List UInt8 → List (List UInt8)
  | cur, [] => if cur = [] then [] else [cur]
  | cur, c :: r => if isBl c then (if cur = [] then wordsG [] r else cur :: wordsG [] r) else wordsG (cur ++ [c]) r
def sepJ (ws : List (List UInt8)) : List UInt8 := ws.flatMap fun x => 32 :: x
def joinW : List (List UInt8) → List UInt8
  | [] => []
  | x :: ws => x ++ sepJ ws
theorem words_col : ∀ (l : List UInt8), (∀ cur, cur ≠ [] → ∃ h t, wordsG cur l = (cur ++ h) :: t ∧ colF 1 l = h ++ sepJ t) ∧ (joinW (wordsG [] l) = colF 0 l ∧ sepJ (wordsG [] l) = colF 2 l)
  | [] => ⟨fun cur hc => ⟨[], [], by simp [wordsG, hc], rfl⟩, rfl, rfl⟩
  | c :: r => by
    have ih := words_col r
    cases hc : isBl c with
    | true =>
      refine ⟨fun cur hcur => ⟨[], wordsG [] r, ?_, ?_⟩, ?_, ?_⟩
      · show (if isBl c then _ else _) = _; rw [if_pos hc, if_neg hcur, List.append_nil]
      · rw [colF_bl hc, if_neg (by decide), List.nil_append, ih.2.2]
      · rw [colF_bl hc, if_pos rfl, ← ih.2.1]; show joinW (if isBl c then _ else _) = _; rw [if_pos hc, if_pos rfl]
      · rw [colF_bl hc, if_neg (by decide), ← ih.2.2]; show sepJ (if isBl c then _ else _) = _; rw [if_pos hc, if_pos rfl]
    | false =>
      have hw : ∀ cur, wordsG cur (c :: r) = wordsG (cur ++ [c]) r := fun cur => by show (if isBl c then _ else _) = _; rw [if_neg (by rw [hc]; decide)]
      refine ⟨fun cur hcur => ?_, ?_⟩
      · obtain ⟨h, t, e1, e2⟩ := ih.1 (cur ++ [c]) (by simp)
        refine ⟨c :: h, t, by rw [hw, e1]; simp, ?_⟩
        rw [colF_no hc, if_neg (by decide), e2]; rfl
      · obtain ⟨h, t, e1, e2⟩ := ih.1 ([] ++ [c]) (by simp)
        rw [hw, e1, colF_no hc, colF_no hc, if_neg (by decide), if_pos rfl, e2]
        exact ⟨rfl, by simp [sepJ]⟩
theorem join_words (l : List UInt8) : joinW (wordsG [] l) = collapseL l := (words_col l).2.1
theorem sepJ_snoc (ws : List (List UInt8)) (x : List UInt8) : sepJ (ws ++ [x]) = sepJ ws ++ 32 :: x := by simp [sepJ]
theorem joinW_snoc (ws : List (List UInt8)) (x : List UInt8) (h : ws ≠ []) : joinW (ws ++ [x]) = joinW ws ++ [32] ++ x := by
  cases ws with
  | nil => exact absurd rfl h
  | cons a t => show a ++ sepJ (t ++ [x]) = a ++ sepJ t ++ [32] ++ x; rw [sepJ_snoc]; simp

theorem collapseS_again (s : ByteArray) : collapseS (collapseS s) = collapseS s := by unfold collapseS; rw [txt_data, collapse_again]
theorem stripS_collapse (s : ByteArray) : stripS (collapseS s) = collapseS s := by unfold stripS collapseS; rw [txt_data, stripL_of_ends (collapse_ends _)]
theorem collapseS_strip (s : ByteArray) : collapseS (stripS s) = collapseS s := by unfold stripS collapseS; rw [txt_data, collapse_strip]
theorem collapseS_size (s : ByteArray) : (collapseS s).size ≤ 2 * s.size := by
  unfold collapseS; rw [txt_size]; have := colF_le s.data.toList 0; simpa [collapseL] using this

def prevAt32 (s : ByteArray) (k : Nat) : UInt8 := if k = 0 then 32 else byteAt s (k - 1)
theorem last_take32 (s : ByteArray) (k : Nat) (h : k < s.size) : (s.data.toList.take k).getLastD 32 = prevAt32 s k := by
  unfold prevAt32
  by_cases e : k = 0
  · subst e; simp
  · rw [if_neg e]
    obtain ⟨j, rfl⟩ : ∃ j, k = j + 1 := ⟨k - 1, by omega⟩
    have hj : j < s.data.toList.length := by simp; omega
    rw [List.take_succ_eq_append_getElem hj, List.getLastD_concat]
    unfold byteAt; rw [Nat.add_sub_cancel, List.getD, List.getElem?_eq_getElem hj]; rfl
theorem colP_take (s : ByteArray) (k : Nat) (h : k < s.size) : colP 32 (s.data.toList.take (k + 1)) = colP 32 (s.data.toList.take k) ++ cpiece (prevAt32 s k) (byteAt s k) := by
  rw [byteAt_take s k h, colP_snoc, last_take32 s k h]
theorem colP_le : ∀ (l : List UInt8) (p : UInt8), (colP p l).length ≤ l.length
  | [], _ => by simp [colP]
  | c :: r, p => by
    have := colP_le r c
    have h2 : (cpiece p c).length ≤ 1 := by unfold cpiece; split; split <;> simp; simp
    simp only [colP, List.length_append, List.length_cons]; omega
theorem colP_take_le (s : ByteArray) (k : Nat) : (colP 32 (s.data.toList.take k)).length ≤ k := by
  have h1 := colP_le (s.data.toList.take k) 32
  have h2 : (s.data.toList.take k).length ≤ k := List.length_take_le _ _
  omega
theorem take_all32 (s : ByteArray) : s.data.toList.take s.size = s.data.toList := List.take_of_length_le (by simp)
theorem cpiece_no {p c : UInt8} (h : isBl c = false) : cpiece p c = [c] := by unfold cpiece; rw [if_neg (by rw [h]; decide)]
theorem cpiece_one {p c : UInt8} (h : isBl c = true) (g : isBl p = false) : cpiece p c = [32] := by unfold cpiece; rw [if_pos h, if_neg (by rw [g]; decide)]
theorem cpiece_nil {p c : UInt8} (h : isBl c = true) (g : isBl p = true) : cpiece p c = [] := by unfold cpiece; rw [if_pos h, if_pos g]
theorem prev32_eq (s : ByteArray) (k : Nat) (h : 0 < k) (hk : k - 1 < s.size) : s[k - 1] = prevAt32 s k := by
  unfold prevAt32; rw [if_neg (by omega)]; exact byteAt_eq s (k - 1) hk
theorem first_no (s : ByteArray) (k : Nat) (he : Ends s.data.toList) (hk : k < s.size) (hc : isBl s[k] = true) : 0 < k := by
  rcases Nat.eq_zero_or_pos k with h | h
  · subst h
    have := he.1 s[0] (by rw [List.head?_eq_getElem?]; exact at_some s 0 hk)
    rw [hc] at this; cases this
  · exact h

end Go.Proofs.YtgfbcooeilodmaaDoor
