/- The document's Text of layer 10. Kinds of elements. Facts of no program. Blanks at the ends of texts, as lists of bytes. Runs of blanks within a text, as lists of bytes. What a control has, as a structure. A select's options and which of them are selected, as functions of documents and states. A block of the call's own. A select's options by way of its children. Ways and questions of kinds, of the program and of the document. The program's find, has, isThere, fires, blocks, Asks of layer 24. -/
import Derived.Test.YtnojgejcmaajmaaGreatDoorJsb3
import Derived.Test.YtnojgejcmaajmaaGreatDoorJsb6
import Derived.Test.YtnojgejcmaajmaaGreatDoorJsb15
import Derived.Test.YtnojgejcmaajmaaGreatDoorJsb16

namespace Go.Proofs.YtnojgejcmaajmaaGreatDoor
open Go.RowKit
set_option maxRecDepth 100000
/-- A text, and behind it the texts of nodes. -/
def textF (l : List Nd) : ByteArray → List Int → ByteArray
  | s, [] => s
  | s, c :: t => textF l (s ++ (nd l c.toNat).text) t
def textP (l : List Nd) (id : Int) : ByteArray := textF l (nd l id.toNat).text (nd l id.toNat).kids
theorem text_small {l : List Nd} (h : Right l) {i : Nat} (hi : i < l.length) : (nd l i).text.size ≤ 4000 := by
  have ha := h.alone i hi
  unfold aloneB at ha
  split at ha
  · rw [Bool.and_eq_true, Bool.and_eq_true, decide_eq_true_eq] at ha
    exact ha.2.2
  · rw [Bool.and_eq_true, Bool.and_eq_true, beq_iff_eq] at ha
    omega
end Go.Proofs.YtnojgejcmaajmaaGreatDoor

namespace Go.Proofs.YtnojgejcmaajmaaGreatDoor
open Go.RowKit
/-- In which way a kind has its value. -/
def modeV (k : Int) : Int := if (2 ≤ k ∧ k ≤ 15) ∨ k = 24 ∨ k = 28 then 1 else if k = 1 ∨ (19 ≤ k ∧ k ≤ 22) then 2 else if k = 16 ∨ k = 17 then 3 else if k = 18 then 4 else 0
def tickB (k : Int) : Bool := decide (k = 16 ∨ k = 17)
end Go.Proofs.YtnojgejcmaajmaaGreatDoor

namespace Go.Proofs.YtnojgejcmaajmaaGreatDoor
open Go.RowKit
theorem txt_data (l : List UInt8) : (txt l).data.toList = l := rfl
theorem txt_toList (s : ByteArray) : txt s.data.toList = s := rfl
theorem txt_size (l : List UInt8) : (txt l).size = l.length := rfl
/-- 'out = append(out, c)': the byte was laid in a block of its own first. -/
theorem wpList_append_byte {P : Program} {t e st : TypeId} (bt : ByteTypes P t e st) {ops : Array Oper} {rest : List Oper} {o : Oper} {a : Act} {Q : Exit → Act → World → Prop} (w : World) (y : Int)
    (hgd : o.guard = none) (s x : Operand) (ho : o.op = .call { callee := .builtin .append, args := #[s, x], argTypes := #[t, t] })
    (base : Nat) (v : Value) (l : List UInt8) (c : UInt8) (hy : y = (c.toNat : Int)) (hs : a.eval s = v) (hown : OwnsB e base w v l)
    (hx : a.eval x = .slice (some ⟨w.heap.size, 0, none⟩) 1 1) (hlen : l.length ≤ 70368744177664) (hbase : base ≤ w.heap.size)
    (h : ∀ v' w', OwnsB e base w' v' (l ++ [c]) → Below base w w' → wpList P ops Q rest (a.put o.dst v') w') : wpList P ops Q (o :: rest) a (w.alloc (.cells #[.int .u8 y] e)) := by
  subst hy
  obtain ⟨i, hi, hz0, hz1, hz2⟩ := info_parts bt.info
  have hown' : (w.alloc (.cells #[.int .u8 (c.toNat : Int)] e)).ownsRow base e 1 v l.length (l.map cellB) := World.ownsRow.alloc hown _
  refine wpList_append_own (P := P) _ hgd s x t ho base e i (.int .u8 0) 1 1 bt.sl hi hz0 hz1 hz2 rfl (by decide) v l.length (l.map cellB) hs hown' ⟨w.heap.size, 0, none⟩ 1 1 [cellB c] hx rfl (cell_one_new _ _ _) (fun u hu => by simp at hu; subst hu; rfl) (by unfold maxLen; omega) (by omega) (by simp; omega) ?_
  intro v' w' h1 h2 _
  refine h v' w' ?_ (((Below.refl base w).alloc hbase _).trans (grown_below hown' h2 (by simp; omega)))
  simpa [OwnsB] using h1
/-- 'out = append(out, s...)', s a text. -/
theorem wpList_append_text {P : Program} {t e st : TypeId} (bt : ByteTypes P t e st) {ops : Array Oper} {rest : List Oper} {o : Oper} {a : Act} {Q : Exit → Act → World → Prop} (w : World)
    (hgd : o.guard = none) (sl x : Operand) (ho : o.op = .call { callee := .builtin .append, args := #[sl, x], argTypes := #[t, st] })
    (base : Nat) (v : Value) (l : List UInt8) (s : ByteArray) (hs : a.eval sl = v) (hown : OwnsB e base w v l)
    (hx : a.eval x = .string s) (hlen : l.length + s.size ≤ 70368744177664) (hbase : base ≤ w.heap.size)
    (h : ∀ v' w', OwnsB e base w' v' (l ++ s.data.toList) → Below base w w' → wpList P ops Q rest (a.put o.dst v') w') : wpList P ops Q (o :: rest) a w := by
  obtain ⟨i, hi, hz0, hz1, hz2⟩ := info_parts bt.info
  refine Lib.wpList_append_own_string (P := P) w hgd sl x t st ho base e i bt.sl bt.str hi hz0 hz1 hz2 v l.length (l.map cellB) hs hown s hx (by unfold maxLen; omega) (by omega) hbase ?_
  intro v' w' h1 h2 _
  refine h v' w' ?_ (grown_below hown h2 hbase)
  have e1 : Lib.strCells s = s.data.toList.map cellB := by simp [Lib.strCells, cellB]
  have e2 : s.size = s.data.toList.length := by simp
  rw [e1, e2, ← List.map_append, ← List.length_append] at h1
  exact h1
end Go.Proofs.YtnojgejcmaajmaaGreatDoor

namespace Go.Proofs.YtnojgejcmaajmaaGreatDoor
open Go.RowKit
def blanks : List UInt8 := [9, 10, 12, 13, 32]
def isBl (c : UInt8) : Bool := blanks.contains c
def stripL (l : List UInt8) : List UInt8 := Lib.trimS l blanks
def stripS (s : ByteArray) : ByteArray := txt (stripL s.data.toList)
/-- No blank at either end. -/
def EndsB (l : List UInt8) : Prop := (∀ b, l.head? = some b → isBl b = false) ∧ (∀ b, l.getLast? = some b → isBl b = false)
theorem trimLeft_head (l : List UInt8) : ∀ b, (Lib.trimLeftS l blanks).head? = some b → isBl b = false := by
  intro b hb
  unfold Lib.trimLeftS at hb
  have := List.head?_dropWhile_not (p := fun x => blanks.contains x) l
  rw [hb] at this
  simpa [isBl] using this
theorem trimRight_last (l : List UInt8) : ∀ b, (Lib.trimRightS l blanks).getLast? = some b → isBl b = false := by
  intro b hb
  unfold Lib.trimRightS at hb
  rw [List.getLast?_reverse] at hb
  exact trimLeft_head l.reverse b hb
theorem trimLeft_suffix (l : List UInt8) : Lib.trimLeftS l blanks <:+ l := List.dropWhile_suffix _
theorem last_of_suffix {l m : List UInt8} (h : m <:+ l) {b : UInt8} (hb : m.getLast? = some b) : l.getLast? = some b := by
  obtain ⟨t, rfl⟩ := h
  rw [List.getLast?_append, hb]; rfl
theorem stripL_ends (l : List UInt8) : EndsB (stripL l) :=
  ⟨trimLeft_head _, fun b hb => trimRight_last l b (last_of_suffix (trimLeft_suffix _) hb)⟩
theorem stripL_le (l : List UInt8) : (stripL l).length ≤ l.length := by
  have h1 : (stripL l).length ≤ (Lib.trimRightS l blanks).length := (trimLeft_suffix _).length_le
  have h2 : (Lib.trimRightS l blanks).length ≤ l.length := by
    unfold Lib.trimRightS
    have := (List.dropWhile_suffix (fun x => blanks.contains x) (l := l.reverse)).length_le
    simpa using this
  omega
theorem stripS_size (s : ByteArray) : (stripS s).size ≤ s.size := by
  unfold stripS; rw [txt_size]; have := stripL_le s.data.toList; simpa using this
theorem at_some (s : ByteArray) (k : Nat) (h : k < s.size) : s.data.toList[k]? = some s[k] := by
  rw [List.getElem?_eq_getElem (by simpa using h)]; rfl
end Go.Proofs.YtnojgejcmaajmaaGreatDoor

namespace Go.Proofs.YtnojgejcmaajmaaGreatDoor
open Go.RowKit
/-- Byte by byte: 0: nothing was told yet; 1: within a word; 2: blanks behind a word. -/
def colF : Nat → List UInt8 → List UInt8
  | _, [] => []
  | st, c :: r => if isBl c then colF (if st = 0 then 0 else 2) r else (if st = 2 then [32, c] else [c]) ++ colF 1 r
def collapseL (l : List UInt8) : List UInt8 := colF 0 l
def collapseS (s : ByteArray) : ByteArray := txt (collapseL s.data.toList)
theorem colF_bl {st : Nat} {c : UInt8} {r : List UInt8} (h : isBl c = true) : colF st (c :: r) = colF (if st = 0 then 0 else 2) r := by
  show (if isBl c then _ else _) = _; rw [if_pos h]
theorem colF_no {st : Nat} {c : UInt8} {r : List UInt8} (h : isBl c = false) : colF st (c :: r) = (if st = 2 then [32, c] else [c]) ++ colF 1 r := by
  show (if isBl c then _ else _) = _; rw [if_neg (by rw [h]; decide)]
theorem colF_snoc {b : UInt8} (h : isBl b = true) : ∀ (l : List UInt8) (st : Nat), colF st (l ++ [b]) = colF st l
  | [], st => by rw [List.nil_append, colF_bl h]; rfl
  | c :: r, st => by
    cases hc : isBl c with
    | true => rw [List.cons_append, colF_bl hc, colF_bl hc, colF_snoc h r]
    | false => rw [List.cons_append, colF_no hc, colF_no hc, colF_snoc h r]
theorem colF_right (st : Nat) : ∀ m : List UInt8, colF st (m.dropWhile (fun x => blanks.contains x)).reverse = colF st m.reverse
  | [] => rfl
  | b :: r => by
    rw [List.dropWhile_cons]
    cases hb : blanks.contains b with
    | true => rw [if_pos rfl, colF_right st r, List.reverse_cons, colF_snoc hb]
    | false => rw [if_neg (by decide)]
theorem colF_left : ∀ m : List UInt8, colF 0 (m.dropWhile (fun x => blanks.contains x)) = colF 0 m
  | [] => rfl
  | b :: r => by
    rw [List.dropWhile_cons]
    cases hb : blanks.contains b with
    | true => rw [if_pos rfl, colF_left r, colF_bl hb, if_pos rfl]
    | false => rw [if_neg (by decide)]
theorem collapse_strip (l : List UInt8) : collapseL (stripL l) = collapseL l := by
  unfold collapseL stripL Lib.trimS Lib.trimLeftS Lib.trimRightS
  rw [colF_left]
  have := colF_right 0 l.reverse
  rw [List.reverse_reverse] at this
  exact this
/-- What the program tells at a byte c behind a byte p. -/
def cpiece (p c : UInt8) : List UInt8 := if isBl c then (if isBl p then [] else [32]) else [c]
def colP : UInt8 → List UInt8 → List UInt8
  | _, [] => []
  | p, c :: r => cpiece p c ++ colP c r
theorem colP_snoc (c : UInt8) : ∀ (l : List UInt8) (p : UInt8), colP p (l ++ [c]) = colP p l ++ cpiece (l.getLastD p) c
  | [], p => by simp [colP]
  | a :: r, p => by
    have ih := colP_snoc c r a
    have hl : (a :: r).getLastD p = r.getLastD a := by cases r <;> rfl
    show cpiece p a ++ colP a (r ++ [c]) = cpiece p a ++ colP a r ++ _
    rw [ih, hl, List.append_assoc]
def LastNo (l : List UInt8) : Prop := ∀ b, l.getLast? = some b → isBl b = false
theorem lastNo_tail {c : UInt8} {r : List UInt8} (h : LastNo (c :: r)) : LastNo r := fun b hb => h b (last_of_suffix (List.suffix_cons c r) hb)
theorem lastNo_ne {c : UInt8} {r : List UInt8} (h : LastNo (c :: r)) (hc : isBl c = true) : r ≠ [] := by
  intro e; subst e; have := h c rfl; rw [hc] at this; cases this
theorem colF_colP : ∀ (l : List UInt8) (p : UInt8), LastNo l → (isBl p = false → colF 1 l = colP p l) ∧ (isBl p = true → l ≠ [] → colF 2 l = 32 :: colP p l)
  | [], p, _ => ⟨fun _ => rfl, fun _ h => absurd rfl h⟩
  | c :: r, p, h => by
    have ih := colF_colP r c (lastNo_tail h)
    cases hc : isBl c with
    | true =>
      have hne := lastNo_ne h hc
      constructor
      · intro hp
        rw [colF_bl hc, if_neg (by decide), ih.2 hc hne]
        show _ = cpiece p c ++ colP c r
        unfold cpiece; rw [if_pos hc, if_neg (by rw [hp]; decide)]; rfl
      · intro hp _
        rw [colF_bl hc, if_neg (by decide), ih.2 hc hne]
        show _ = 32 :: (cpiece p c ++ colP c r)
        unfold cpiece; rw [if_pos hc, if_pos hp]; rfl
    | false =>
      constructor
      · intro hp
        rw [colF_no hc, if_neg (by decide), ih.1 hc]
        show _ = cpiece p c ++ colP c r
        unfold cpiece; rw [if_neg (by rw [hc]; decide)]
      · intro hp _
        rw [colF_no hc, if_pos rfl, ih.1 hc]
        show _ = 32 :: (cpiece p c ++ colP c r)
        unfold cpiece; rw [if_neg (by rw [hc]; decide)]; rfl
theorem colP_strip (l : List UInt8) (p : UInt8) : colP p (stripL l) = collapseL l := by
  rw [← collapse_strip]
  have he := stripL_ends l
  generalize stripL l = m at *
  unfold collapseL
  cases m with
  | nil => rfl
  | cons c r =>
    have hc := he.1 c rfl
    rw [colF_no hc, if_neg (by decide), ((colF_colP r c (lastNo_tail he.2)).1 hc)]
    show cpiece p c ++ colP c r = _
    unfold cpiece; rw [if_neg (by rw [hc]; decide)]
def prevAt32 (s : ByteArray) (k : Nat) : UInt8 := if k = 0 then 32 else byteAt s (k - 1)
theorem last_take32 (s : ByteArray) (k : Nat) (h : k < s.size) : (s.data.toList.take k).getLastD 32 = prevAt32 s k := by
  unfold prevAt32
  by_cases e : k = 0
  · subst e; simp
  · rw [if_neg e]
    obtain ⟨j, rfl⟩ : ∃ j, k = j + 1 := ⟨k - 1, by omega⟩
    have hj : j < s.data.toList.length := by simp; omega
    rw [List.take_succ_eq_append_getElem hj, List.getLastD_concat]
    unfold byteAt; rw [Nat.add_sub_cancel, List.getD, List.getElem?_eq_getElem hj]; rfl
theorem colP_take (s : ByteArray) (k : Nat) (h : k < s.size) : colP 32 (s.data.toList.take (k + 1)) = colP 32 (s.data.toList.take k) ++ cpiece (prevAt32 s k) (byteAt s k) := by
  rw [byteAt_take s k h, colP_snoc, last_take32 s k h]
theorem colP_le : ∀ (l : List UInt8) (p : UInt8), (colP p l).length ≤ l.length
  | [], _ => by simp [colP]
  | c :: r, p => by
    have := colP_le r c
    have h2 : (cpiece p c).length ≤ 1 := by unfold cpiece; split; split <;> simp; simp
    simp only [colP, List.length_append, List.length_cons]; omega
theorem colP_take_le (s : ByteArray) (k : Nat) : (colP 32 (s.data.toList.take k)).length ≤ k := by
  have h1 := colP_le (s.data.toList.take k) 32
  have h2 : (s.data.toList.take k).length ≤ k := List.length_take_le _ _
  omega
theorem take_all32 (s : ByteArray) : s.data.toList.take s.size = s.data.toList := List.take_of_length_le (by simp)
theorem cpiece_no {p c : UInt8} (h : isBl c = false) : cpiece p c = [c] := by unfold cpiece; rw [if_neg (by rw [h]; decide)]
theorem cpiece_one {p c : UInt8} (h : isBl c = true) (g : isBl p = false) : cpiece p c = [32] := by unfold cpiece; rw [if_pos h, if_neg (by rw [g]; decide)]
theorem cpiece_nil {p c : UInt8} (h : isBl c = true) (g : isBl p = true) : cpiece p c = [] := by unfold cpiece; rw [if_pos h, if_pos g]
theorem prev32_eq (s : ByteArray) (k : Nat) (h : 0 < k) (hk : k - 1 < s.size) : s[k - 1] = prevAt32 s k := by
  unfold prevAt32; rw [if_neg (by omega)]; exact byteAt_eq s (k - 1) hk
theorem first_no (s : ByteArray) (k : Nat) (he : EndsB s.data.toList) (hk : k < s.size) (hc : isBl s[k] = true) : 0 < k := by
  rcases Nat.eq_zero_or_pos k with h | h
  · subst h
    have := he.1 s[0] (by rw [List.head?_eq_getElem?]; exact at_some s 0 hk)
    rw [hc] at this; cases this
  · exact h
end Go.Proofs.YtnojgejcmaajmaaGreatDoor

namespace Go.Proofs.YtnojgejcmaajmaaGreatDoor
open Go.RowKit
def ct0 : Ct := ⟨⟨#[]⟩, false, false, false, false, false, false, false, ⟨#[]⟩, []⟩
end Go.Proofs.YtnojgejcmaajmaaGreatDoor

namespace Go.Proofs.YtnojgejcmaajmaaGreatDoor
open Go.RowKit
def oSel : ByteArray := ⟨#[115, 101, 108, 101, 99, 116]⟩
def oOpt : ByteArray := ⟨#[111, 112, 116, 105, 111, 110]⟩
def oGrp : ByteArray := ⟨#[111, 112, 116, 103, 114, 111, 117, 112]⟩
def oVal : ByteArray := ⟨#[118, 97, 108, 117, 101]⟩
/-- Where an option's select may be; its select. -/
def grpI (l : List Nd) (p : Int) : Bool := decide (0 ≤ p) && decide (nmI l p = oGrp)
def upI (l : List Nd) (m : Int) : Int := if grpI l (parI l m) = true then parI l (parI l m) else parI l m
def ownP (l : List Nd) (m : Int) : Int := if upI l m < 0 ∨ ¬ nmI l (upI l m) = oSel then -1 else upI l m
def optB (l : List Nd) (sel i : Int) : Bool := decide (nmI l i = oOpt) && decide (ownP l i = sel)
def listP (l : List Nd) (sel : Int) : List Int := if isK l sel 23 = true then (orderP l sel).filter (optB l sel) else []
def textO (l : List Nd) (opt : Int) : ByteArray := if isK l opt 32 = true then (if hasA (nd l opt.toNat) oVal = true then fndS (nd l opt.toNat).attrs oVal else collapseS (textP l opt)) else ⟨#[]⟩
/-- States: one of them; right with a document. -/
def st (C : List Ct) (i : Int) : Ct := C.getD i.toNat ct0
def rightD (l : List Nd) (C : List Ct) : Bool := rightB l && decide ((l.length : Int) = (C.length : Int))
def valueO (l : List Nd) (C : List Ct) (sel : Int) : ByteArray := if rightD l C = true then (match (listP l sel).find? (fun i => (st C i).sel) with
  | none => ⟨#[]⟩
  | some i => textO l i) else ⟨#[]⟩
/-- What a select's options are. -/
theorem list_in {l : List Nd} {sel : Int} : (listP l sel).Nodup ∧ ∀ i ∈ listP l sel, 0 ≤ i ∧ i < (l.length : Int) := by
  unfold listP
  split
  · rename_i h
    unfold isK at h
    rw [Bool.and_eq_true] at h
    have h1 := h.1
    unfold hasN at h1
    rw [Bool.and_eq_true, decide_eq_true_eq] at h1
    have R := right_is.1 h1.2
    refine ⟨(order_nodup R h1.1.1 h1.1.2).filter _, fun i hi => ?_⟩
    have := (order_mem R h1.1.1 h1.1.2 i).1 (List.mem_filter.1 hi).1
    exact ⟨this.1, this.2.1⟩
  · exact ⟨List.nodup_nil, fun i hi => by cases hi⟩
theorem rightD_is {l : List Nd} {C : List Ct} (h : rightD l C = true) : Right l ∧ l.length = C.length := by
  unfold rightD at h
  rw [Bool.and_eq_true, decide_eq_true_eq] at h
  exact ⟨right_is.1 h.1, by omega⟩
end Go.Proofs.YtnojgejcmaajmaaGreatDoor

namespace Go.Proofs.YtnojgejcmaajmaaGreatDoor
open Go.RowKit
theorem Bk.other {w : World} {n m : Nat} {cs : List Value} {t : TypeId} (h : Bk w n cs t) (hm : m ≠ n) (k : Nat) (u : Value) : Bk (w.setCell ⟨m, k, none⟩ u) n cs t := ⟨(Below.heap_setCell _ _ _ _ (fun e => hm e.symm)).trans h.lies⟩
end Go.Proofs.YtnojgejcmaajmaaGreatDoor

namespace Go.Proofs.YtnojgejcmaajmaaGreatDoor
open Go.RowKit
/-- Which names are selects, options, groups. -/
theorem kOf_sel {name : ByteArray} {o : Option ByteArray} : kOf name o = 23 ↔ name = oSel := by
  constructor
  · intro h
    unfold kOf at h
    split at h
    · have := byT_in (o := o) (f := 1) (l := 22) (z := 2) (by decide)
      omega
    · split at h
      · assumption
      · split at h
        · omega
        · split at h
          · have := byT_in (o := o) (f := 25) (l := 27) (z := 25) (by decide)
            omega
          · split at h
            · omega
            · omega
  · intro h; subst h; rfl
theorem kOf_opt {name : ByteArray} {o : Option ByteArray} : kOf name o = 32 ↔ name = oOpt := by
  constructor
  · intro h
    have := kOf_last (i := 4) (o := o) (name := name) (by rw [h]; rfl)
    rw [← this]; rfl
  · intro h; subst h; rfl
theorem kOf_grp {name : ByteArray} {o : Option ByteArray} : kOf name o = 33 ↔ name = oGrp := by
  constructor
  · intro h
    have := kOf_last (i := 5) (o := o) (name := name) (by rw [h]; rfl)
    rw [← this]; rfl
  · intro h; subst h; rfl
/-- A select's options by way of its children. -/
def optsC (l : List Nd) (c : Int) : List Int := if nmI l c = oOpt then [c] else if nmI l c = oGrp then (kidsI l c).filter (fun d => decide (nmI l d = oOpt)) else []
def optsP (l : List Nd) (sel : Int) : List Int := (kidsI l sel).flatMap (optsC l)
theorem Dep.ne {l : List Nd} {d e : Nat} {k j : Int} (h : Dep l d k) (g : Dep l e j) (hn : d ≠ e) : k ≠ j := fun q => hn (by rw [q] at h; exact h.one g)
theorem up_is {l : List Nd} {sel x : Int} (h0 : 0 ≤ sel) (h : ownP l x = sel) : upI l x = sel := by
  unfold ownP at h
  split at h
  · omega
  · exact h
/-- An option is a child, or a child's child. -/
theorem opt_dep {l : List Nd} {sel x : Int} {a d : Nat} (hs : Dep l a sel) (hx : Dep l d x) (h : optB l sel x = true) : d = a + 1 ∨ d = a + 2 := by
  unfold optB at h
  rw [Bool.and_eq_true, decide_eq_true_eq, decide_eq_true_eq] at h
  have s0 := hs.rng.1
  have u := up_is s0 h.2
  unfold upI at u
  split at u
  · rename_i g
    match d, hx with
    | 0, hx =>
      have e : parI l x = -1 := hx.2
      rw [e] at g
      cases g
    | 1, hx =>
      have e : parI l (parI l x) = -1 := hx.2.2
      omega
    | d + 2, hx =>
      have q : Dep l d (parI l (parI l x)) := hx.2.2
      rw [u] at q
      have := q.one hs
      omega
  · match d, hx with
    | 0, hx =>
      have e : parI l x = -1 := hx.2
      omega
    | d + 1, hx =>
      have q : Dep l d (parI l x) := hx.2
      rw [u] at q
      have := q.one hs
      omega
theorem down_none {l : List Nd} (hL : Linked l) {sel k : Int} {a d f : Nat} (hs : Dep l a sel) (hk : Dep l d k) (hd : a + 2 < d) : (downF l f k).filter (optB l sel) = [] := by
  rw [List.filter_eq_nil_iff]
  intro x hx q
  obtain ⟨e, he, _⟩ := down_dep hL hk hx
  have := opt_dep hs he q
  omega
theorem dep_kid {l : List Nd} (hL : Linked l) {k c : Int} {d : Nat} (hk : Dep l d k) (hc : c ∈ kidsI l k) : Dep l (d + 1) c := by
  have := hL.kidI hk.rng hc
  exact ⟨this.1, by rw [this.2]; exact hk⟩
theorem filter_flat {f : Int → List Int} {p : Int → Bool} : ∀ (L : List Int), (L.flatMap f).filter p = L.flatMap (fun x => (f x).filter p)
  | [] => rfl
  | x :: L => by
    rw [List.flatMap_cons, List.filter_append, filter_flat L, List.flatMap_cons]
theorem flat_nil {f : Int → List Int} : ∀ {L : List Int}, (∀ x ∈ L, f x = []) → L.flatMap f = []
  | [], _ => rfl
  | x :: L, h => by rw [List.flatMap_cons, h x List.mem_cons_self, flat_nil (fun y hy => h y (List.mem_cons_of_mem _ hy))]; rfl
theorem flat_filter {p q : Int → Bool} {f : Int → List Int} : ∀ {L : List Int}, (∀ x ∈ L, f x = if p x = true then [x] else []) → L.flatMap f = L.filter p
  | [], _ => rfl
  | x :: L, h => by
    rw [List.flatMap_cons, h x List.mem_cons_self, flat_filter (q := q) (fun y hy => h y (List.mem_cons_of_mem _ hy)), List.filter_cons]
    split <;> rfl
/-- A child's child. -/
theorem down_low {l : List Nd} (hL : Linked l) {sel k : Int} {a f : Nat} (hs : Dep l a sel) (hk : Dep l (a + 2) k) (hf : Sub l f k) : (downF l f k).filter (optB l sel) = if optB l sel k = true then [k] else [] := by
  match f, hf with
  | f + 1, hf =>
    show (k :: (kidsI l k).flatMap (downF l f)).filter (optB l sel) = _
    have e : ((kidsI l k).flatMap (downF l f)).filter (optB l sel) = [] := by
      rw [filter_flat]
      exact flat_nil (fun c hc => down_none hL hs (dep_kid hL hk hc) (by omega))
    rw [List.filter_cons, e]
theorem sel_name {l : List Nd} {sel : Int} (h : isK l sel 23 = true) : nmI l sel = oSel := by
  unfold isK kN at h
  rw [Bool.and_eq_true, decide_eq_true_eq] at h
  exact kOf_sel.1 h.2
theorem kid_opt {l : List Nd} (hL : Linked l) {sel c : Int} (hn : nmI l sel = oSel) (hr : inR l sel) (hc : c ∈ kidsI l sel) : optB l sel c = decide (nmI l c = oOpt) := by
  have pc := (hL.kidI hr hc).2
  have u : upI l c = sel := by
    unfold upI grpI
    rw [pc, hn, if_neg]
    rw [Bool.and_eq_true]
    rintro ⟨_, q⟩
    exact absurd (of_decide_eq_true q) (by decide)
  have w : ownP l c = sel := by
    unfold ownP
    rw [u, if_neg]
    rintro (q | q)
    · have := hr.1; omega
    · exact q hn
  unfold optB
  rw [w, decide_eq_true rfl, Bool.and_true]
theorem low_opt {l : List Nd} (hL : Linked l) {sel c d : Int} {a : Nat} (hn : nmI l sel = oSel) (hs : Dep l a sel) (hc : c ∈ kidsI l sel) (hd : d ∈ kidsI l c) : optB l sel d = (decide (nmI l d = oOpt) && decide (nmI l c = oGrp)) := by
  have dc := dep_kid hL hs hc
  have pc := (hL.kidI hs.rng hc).2
  have pd := (hL.kidI dc.rng hd).2
  have c0 := dc.rng.1
  by_cases g : nmI l c = oGrp
  · have gi : grpI l (parI l d) = true := by
      unfold grpI
      rw [pd, Bool.and_eq_true]
      exact ⟨decide_eq_true c0, decide_eq_true g⟩
    have u : upI l d = sel := by
      unfold upI
      rw [if_pos gi, pd, pc]
    have w : ownP l d = sel := by
      unfold ownP
      rw [u, if_neg]
      rintro (q | q)
      · have := hs.rng.1; omega
      · exact q hn
    unfold optB
    rw [w, decide_eq_true rfl, decide_eq_true g]
  · have u : upI l d = c := by
      unfold upI
      rw [if_neg, pd]
      unfold grpI
      rw [pd, Bool.and_eq_true]
      rintro ⟨_, q⟩
      exact g (of_decide_eq_true q)
    have w : ¬ ownP l d = sel := fun q => by
      have := up_is hs.rng.1 q
      rw [u] at this
      exact dc.ne hs (by omega) this
    unfold optB
    rw [decide_eq_false w, decide_eq_false g, Bool.and_false]
theorem kid_row {l : List Nd} (hL : Linked l) {sel c : Int} {a f : Nat} (hn : nmI l sel = oSel) (hs : Dep l a sel) (hc : c ∈ kidsI l sel) (hf : Sub l f c) : (downF l f c).filter (optB l sel) = optsC l c := by
  match f, hf with
  | f + 1, hf =>
    show (c :: (kidsI l c).flatMap (downF l f)).filter (optB l sel) = _
    rw [List.filter_cons, kid_opt hL hn hs.rng hc, filter_flat]
    have dc := dep_kid hL hs hc
    have e : (kidsI l c).flatMap (fun x => (downF l f x).filter (optB l sel)) = (kidsI l c).filter (fun d => decide (nmI l d = oOpt) && decide (nmI l c = oGrp)) :=
      flat_filter (q := fun _ => true) (fun d hd => by rw [down_low hL hs (dep_kid hL dc hd) (hf.2 d hd), low_opt hL hn hs hc hd])
    rw [e]
    unfold optsC
    by_cases q : nmI l c = oOpt
    · have ng : ¬ nmI l c = oGrp := fun r => by rw [q] at r; exact absurd r (by decide)
      rw [if_pos (decide_eq_true q), if_pos q, List.filter_eq_nil_iff.2 (fun d _ r => by rw [decide_eq_false ng, Bool.and_false] at r; cases r)]
    · rw [if_neg (fun r => q (of_decide_eq_true r)), if_neg q]
      by_cases g : nmI l c = oGrp
      · rw [if_pos g]
        exact List.filter_congr (fun d _ => by rw [decide_eq_true g, Bool.and_true])
      · rw [if_neg g, List.filter_eq_nil_iff.2 (fun d _ r => by rw [decide_eq_false g, Bool.and_false] at r; cases r)]
theorem list_opts {l : List Nd} {sel : Int} (h : isK l sel 23 = true) : listP l sel = optsP l sel := by
  have hn := sel_name h
  have hh : hasN l sel = true := by unfold isK at h; rw [Bool.and_eq_true] at h; exact h.1
  unfold hasN at hh
  rw [Bool.and_eq_true, decide_eq_true_eq] at hh
  have hR := right_is.1 hh.2
  have hr : inR l sel := ⟨hh.1.1, hh.1.2⟩
  have hL := right_linked hR
  obtain ⟨a, hs⟩ := right_dep hR hr
  have hf := right_sub hR hr
  unfold listP
  rw [if_pos h, order_down hR hr]
  match hl : l.length, hf with
  | 0, hf => cases hf
  | f + 1, hf =>
    show (sel :: (kidsI l sel).flatMap (downF l f)).filter (optB l sel) = _
    have ns : optB l sel sel = false := by
      unfold optB
      rw [hn]
      rfl
    rw [List.filter_cons, ns, filter_flat]
    exact flat_congr (fun c hc => kid_row hL hn hs hc (hf.2 c hc))
end Go.Proofs.YtnojgejcmaajmaaGreatDoor

namespace Go.Proofs.YtnojgejcmaajmaaGreatDoor
open Go.RowKit
set_option maxRecDepth 100000
set_option maxHeartbeats 4000000 in
set_option maxRecDepth 100000 in
theorem isTicked_any (k : Int) (w : World) :
    Calls Tryz.prog 232 #[.int .i64 k] w fun e w' => e = .returned (.bool (tickB k)) ∧ w' = w := by
  rcases (show (k ≤ 15) ∨ (k = 16) ∨ (k = 17) ∨ (18 ≤ k) by omega) with q | q | q | q
  all_goals
    first | (have e1 : (k == 16) = false := by rw [beq_eq_false_iff_ne]; omega) | (have e1 : (k == 16) = true := by rw [beq_iff_eq]; omega)
    first | (have n1 : ¬ k = 16 := by omega) | (have n1 : (k != 16) = false := by unfold bne; rw [e1]; rfl)
    first | (have e2 : (k == 17) = false := by rw [beq_eq_false_iff_ne]; omega) | (have e2 : (k == 17) = true := by rw [beq_iff_eq]; omega)
    first | (have n2 : ¬ k = 17 := by omega) | (have n2 : (k != 17) = false := by unfold bne; rw [e2]; rfl)
    first | (have E := hide (show tickB k = false from decide_eq_false (by omega))) | (have E := hide (show tickB k = true from decide_eq_true (by omega)))
    clear q
    go_enter Tryz.func232, Tryz.ntmps232
    go_wp2_with fail
    go_ret
    exact ⟨ret_bool E.out.symm, rfl⟩
set_option maxHeartbeats 4000000 in
set_option maxRecDepth 100000 in
theorem mode_any (k : Int) (w : World) :
    Calls Tryz.prog 193 #[.int .i64 k] w fun e w' => e = .returned (.int .i64 (modeV k)) ∧ w' = w := by
  rcases (show (k ≤ 0) ∨ (k = 1) ∨ (2 ≤ k ∧ k ≤ 15) ∨ (16 ≤ k ∧ k ≤ 17) ∨ (k = 18) ∨ (19 ≤ k ∧ k ≤ 22) ∨ (k = 23) ∨ (k = 24) ∨ (25 ≤ k ∧ k ≤ 27) ∨ (k = 28) ∨ (29 ≤ k) by omega) with q | q | q | q | q | q | q | q | q | q | q
  · have H1 := hide (between_any k 2 15)
    rw [show btwB k 2 15 = false from decide_eq_false (by omega)] at H1
    have e2 : (k == 24) = false := by rw [beq_eq_false_iff_ne]; omega
    have n2 : ¬ k = 24 := by omega
    have e3 : (k == 28) = false := by rw [beq_eq_false_iff_ne]; omega
    have n3 : ¬ k = 28 := by omega
    have e4 : (k == 1) = false := by rw [beq_eq_false_iff_ne]; omega
    have n4 : ¬ k = 1 := by omega
    have H5 := hide (between_any k 19 22)
    rw [show btwB k 19 22 = false from decide_eq_false (by omega)] at H5
    have H6 := hide (isTicked_any k)
    rw [show tickB k = false from decide_eq_false (by omega)] at H6
    have e7 : (k == 18) = false := by rw [beq_eq_false_iff_ne]; omega
    have n7 : ¬ k = 18 := by omega
    have E : Hid (modeV k = 0) := by
      show _ = _
      unfold modeV
      rw [if_neg (by omega), if_neg (by omega), if_neg (by omega), if_neg (by omega)]
    clear q
    go_enter Tryz.func193, Tryz.ntmps193
    go_wp2_with fail
    refine (H1.out _).mono ?_
    rintro e u ⟨rfl, rfl⟩
    go_wp2_with fail
    refine (H5.out _).mono ?_
    rintro e u ⟨rfl, rfl⟩
    go_wp2_with fail
    refine (H6.out _).mono ?_
    rintro e u ⟨rfl, rfl⟩
    go_wp2_with fail
    go_ret
    exact ⟨ret_int E.out.symm, rfl⟩
  · have H1 := hide (between_any k 2 15)
    rw [show btwB k 2 15 = false from decide_eq_false (by omega)] at H1
    have e2 : (k == 24) = false := by rw [beq_eq_false_iff_ne]; omega
    have n2 : ¬ k = 24 := by omega
    have e3 : (k == 28) = false := by rw [beq_eq_false_iff_ne]; omega
    have n3 : ¬ k = 28 := by omega
    have e4 : (k == 1) = true := by rw [beq_iff_eq]; omega
    have n4 : (k != 1) = false := by unfold bne; rw [e4]; rfl
    have H5 := hide (between_any k 19 22)
    rw [show btwB k 19 22 = false from decide_eq_false (by omega)] at H5
    have H6 := hide (isTicked_any k)
    rw [show tickB k = false from decide_eq_false (by omega)] at H6
    have e7 : (k == 18) = false := by rw [beq_eq_false_iff_ne]; omega
    have n7 : ¬ k = 18 := by omega
    have E : Hid (modeV k = 2) := by
      show _ = _
      unfold modeV
      rw [if_neg (by omega), if_pos (by omega)]
    clear q
    go_enter Tryz.func193, Tryz.ntmps193
    go_wp2_with fail
    refine (H1.out _).mono ?_
    rintro e u ⟨rfl, rfl⟩
    go_wp2_with fail
    go_ret
    exact ⟨ret_int E.out.symm, rfl⟩
  · have H1 := hide (between_any k 2 15)
    rw [show btwB k 2 15 = true from decide_eq_true (by omega)] at H1
    have e2 : (k == 24) = false := by rw [beq_eq_false_iff_ne]; omega
    have n2 : ¬ k = 24 := by omega
    have e3 : (k == 28) = false := by rw [beq_eq_false_iff_ne]; omega
    have n3 : ¬ k = 28 := by omega
    have e4 : (k == 1) = false := by rw [beq_eq_false_iff_ne]; omega
    have n4 : ¬ k = 1 := by omega
    have H5 := hide (between_any k 19 22)
    rw [show btwB k 19 22 = false from decide_eq_false (by omega)] at H5
    have H6 := hide (isTicked_any k)
    rw [show tickB k = false from decide_eq_false (by omega)] at H6
    have e7 : (k == 18) = false := by rw [beq_eq_false_iff_ne]; omega
    have n7 : ¬ k = 18 := by omega
    have E : Hid (modeV k = 1) := by
      show _ = _
      unfold modeV
      rw [if_pos (by omega)]
    clear q
    go_enter Tryz.func193, Tryz.ntmps193
    go_wp2_with fail
    refine (H1.out _).mono ?_
    rintro e u ⟨rfl, rfl⟩
    go_wp2_with fail
    go_ret
    exact ⟨ret_int E.out.symm, rfl⟩
  · have H1 := hide (between_any k 2 15)
    rw [show btwB k 2 15 = false from decide_eq_false (by omega)] at H1
    have e2 : (k == 24) = false := by rw [beq_eq_false_iff_ne]; omega
    have n2 : ¬ k = 24 := by omega
    have e3 : (k == 28) = false := by rw [beq_eq_false_iff_ne]; omega
    have n3 : ¬ k = 28 := by omega
    have e4 : (k == 1) = false := by rw [beq_eq_false_iff_ne]; omega
    have n4 : ¬ k = 1 := by omega
    have H5 := hide (between_any k 19 22)
    rw [show btwB k 19 22 = false from decide_eq_false (by omega)] at H5
    have H6 := hide (isTicked_any k)
    rw [show tickB k = true from decide_eq_true (by omega)] at H6
    have e7 : (k == 18) = false := by rw [beq_eq_false_iff_ne]; omega
    have n7 : ¬ k = 18 := by omega
    have E : Hid (modeV k = 3) := by
      show _ = _
      unfold modeV
      rw [if_neg (by omega), if_neg (by omega), if_pos (by omega)]
    clear q
    go_enter Tryz.func193, Tryz.ntmps193
    go_wp2_with fail
    refine (H1.out _).mono ?_
    rintro e u ⟨rfl, rfl⟩
    go_wp2_with fail
    refine (H5.out _).mono ?_
    rintro e u ⟨rfl, rfl⟩
    go_wp2_with fail
    refine (H6.out _).mono ?_
    rintro e u ⟨rfl, rfl⟩
    go_wp2_with fail
    go_ret
    exact ⟨ret_int E.out.symm, rfl⟩
  · have H1 := hide (between_any k 2 15)
    rw [show btwB k 2 15 = false from decide_eq_false (by omega)] at H1
    have e2 : (k == 24) = false := by rw [beq_eq_false_iff_ne]; omega
    have n2 : ¬ k = 24 := by omega
    have e3 : (k == 28) = false := by rw [beq_eq_false_iff_ne]; omega
    have n3 : ¬ k = 28 := by omega
    have e4 : (k == 1) = false := by rw [beq_eq_false_iff_ne]; omega
    have n4 : ¬ k = 1 := by omega
    have H5 := hide (between_any k 19 22)
    rw [show btwB k 19 22 = false from decide_eq_false (by omega)] at H5
    have H6 := hide (isTicked_any k)
    rw [show tickB k = false from decide_eq_false (by omega)] at H6
    have e7 : (k == 18) = true := by rw [beq_iff_eq]; omega
    have n7 : (k != 18) = false := by unfold bne; rw [e7]; rfl
    have E : Hid (modeV k = 4) := by
      show _ = _
      unfold modeV
      rw [if_neg (by omega), if_neg (by omega), if_neg (by omega), if_pos (by omega)]
    clear q
    go_enter Tryz.func193, Tryz.ntmps193
    go_wp2_with fail
    refine (H1.out _).mono ?_
    rintro e u ⟨rfl, rfl⟩
    go_wp2_with fail
    refine (H5.out _).mono ?_
    rintro e u ⟨rfl, rfl⟩
    go_wp2_with fail
    refine (H6.out _).mono ?_
    rintro e u ⟨rfl, rfl⟩
    go_wp2_with fail
    go_ret
    exact ⟨ret_int E.out.symm, rfl⟩
  · have H1 := hide (between_any k 2 15)
    rw [show btwB k 2 15 = false from decide_eq_false (by omega)] at H1
    have e2 : (k == 24) = false := by rw [beq_eq_false_iff_ne]; omega
    have n2 : ¬ k = 24 := by omega
    have e3 : (k == 28) = false := by rw [beq_eq_false_iff_ne]; omega
    have n3 : ¬ k = 28 := by omega
    have e4 : (k == 1) = false := by rw [beq_eq_false_iff_ne]; omega
    have n4 : ¬ k = 1 := by omega
    have H5 := hide (between_any k 19 22)
    rw [show btwB k 19 22 = true from decide_eq_true (by omega)] at H5
    have H6 := hide (isTicked_any k)
    rw [show tickB k = false from decide_eq_false (by omega)] at H6
    have e7 : (k == 18) = false := by rw [beq_eq_false_iff_ne]; omega
    have n7 : ¬ k = 18 := by omega
    have E : Hid (modeV k = 2) := by
      show _ = _
      unfold modeV
      rw [if_neg (by omega), if_pos (by omega)]
    clear q
    go_enter Tryz.func193, Tryz.ntmps193
    go_wp2_with fail
    refine (H1.out _).mono ?_
    rintro e u ⟨rfl, rfl⟩
    go_wp2_with fail
    refine (H5.out _).mono ?_
    rintro e u ⟨rfl, rfl⟩
    go_wp2_with fail
    go_ret
    exact ⟨ret_int E.out.symm, rfl⟩
  · have H1 := hide (between_any k 2 15)
    rw [show btwB k 2 15 = false from decide_eq_false (by omega)] at H1
    have e2 : (k == 24) = false := by rw [beq_eq_false_iff_ne]; omega
    have n2 : ¬ k = 24 := by omega
    have e3 : (k == 28) = false := by rw [beq_eq_false_iff_ne]; omega
    have n3 : ¬ k = 28 := by omega
    have e4 : (k == 1) = false := by rw [beq_eq_false_iff_ne]; omega
    have n4 : ¬ k = 1 := by omega
    have H5 := hide (between_any k 19 22)
    rw [show btwB k 19 22 = false from decide_eq_false (by omega)] at H5
    have H6 := hide (isTicked_any k)
    rw [show tickB k = false from decide_eq_false (by omega)] at H6
    have e7 : (k == 18) = false := by rw [beq_eq_false_iff_ne]; omega
    have n7 : ¬ k = 18 := by omega
    have E : Hid (modeV k = 0) := by
      show _ = _
      unfold modeV
      rw [if_neg (by omega), if_neg (by omega), if_neg (by omega), if_neg (by omega)]
    clear q
    go_enter Tryz.func193, Tryz.ntmps193
    go_wp2_with fail
    refine (H1.out _).mono ?_
    rintro e u ⟨rfl, rfl⟩
    go_wp2_with fail
    refine (H5.out _).mono ?_
    rintro e u ⟨rfl, rfl⟩
    go_wp2_with fail
    refine (H6.out _).mono ?_
    rintro e u ⟨rfl, rfl⟩
    go_wp2_with fail
    go_ret
    exact ⟨ret_int E.out.symm, rfl⟩
  · have H1 := hide (between_any k 2 15)
    rw [show btwB k 2 15 = false from decide_eq_false (by omega)] at H1
    have e2 : (k == 24) = true := by rw [beq_iff_eq]; omega
    have n2 : (k != 24) = false := by unfold bne; rw [e2]; rfl
    have e3 : (k == 28) = false := by rw [beq_eq_false_iff_ne]; omega
    have n3 : ¬ k = 28 := by omega
    have e4 : (k == 1) = false := by rw [beq_eq_false_iff_ne]; omega
    have n4 : ¬ k = 1 := by omega
    have H5 := hide (between_any k 19 22)
    rw [show btwB k 19 22 = false from decide_eq_false (by omega)] at H5
    have H6 := hide (isTicked_any k)
    rw [show tickB k = false from decide_eq_false (by omega)] at H6
    have e7 : (k == 18) = false := by rw [beq_eq_false_iff_ne]; omega
    have n7 : ¬ k = 18 := by omega
    have E : Hid (modeV k = 1) := by
      show _ = _
      unfold modeV
      rw [if_pos (by omega)]
    clear q
    go_enter Tryz.func193, Tryz.ntmps193
    go_wp2_with fail
    refine (H1.out _).mono ?_
    rintro e u ⟨rfl, rfl⟩
    go_wp2_with fail
    go_ret
    exact ⟨ret_int E.out.symm, rfl⟩
  · have H1 := hide (between_any k 2 15)
    rw [show btwB k 2 15 = false from decide_eq_false (by omega)] at H1
    have e2 : (k == 24) = false := by rw [beq_eq_false_iff_ne]; omega
    have n2 : ¬ k = 24 := by omega
    have e3 : (k == 28) = false := by rw [beq_eq_false_iff_ne]; omega
    have n3 : ¬ k = 28 := by omega
    have e4 : (k == 1) = false := by rw [beq_eq_false_iff_ne]; omega
    have n4 : ¬ k = 1 := by omega
    have H5 := hide (between_any k 19 22)
    rw [show btwB k 19 22 = false from decide_eq_false (by omega)] at H5
    have H6 := hide (isTicked_any k)
    rw [show tickB k = false from decide_eq_false (by omega)] at H6
    have e7 : (k == 18) = false := by rw [beq_eq_false_iff_ne]; omega
    have n7 : ¬ k = 18 := by omega
    have E : Hid (modeV k = 0) := by
      show _ = _
      unfold modeV
      rw [if_neg (by omega), if_neg (by omega), if_neg (by omega), if_neg (by omega)]
    clear q
    go_enter Tryz.func193, Tryz.ntmps193
    go_wp2_with fail
    refine (H1.out _).mono ?_
    rintro e u ⟨rfl, rfl⟩
    go_wp2_with fail
    refine (H5.out _).mono ?_
    rintro e u ⟨rfl, rfl⟩
    go_wp2_with fail
    refine (H6.out _).mono ?_
    rintro e u ⟨rfl, rfl⟩
    go_wp2_with fail
    go_ret
    exact ⟨ret_int E.out.symm, rfl⟩
  · have H1 := hide (between_any k 2 15)
    rw [show btwB k 2 15 = false from decide_eq_false (by omega)] at H1
    have e2 : (k == 24) = false := by rw [beq_eq_false_iff_ne]; omega
    have n2 : ¬ k = 24 := by omega
    have e3 : (k == 28) = true := by rw [beq_iff_eq]; omega
    have n3 : (k != 28) = false := by unfold bne; rw [e3]; rfl
    have e4 : (k == 1) = false := by rw [beq_eq_false_iff_ne]; omega
    have n4 : ¬ k = 1 := by omega
    have H5 := hide (between_any k 19 22)
    rw [show btwB k 19 22 = false from decide_eq_false (by omega)] at H5
    have H6 := hide (isTicked_any k)
    rw [show tickB k = false from decide_eq_false (by omega)] at H6
    have e7 : (k == 18) = false := by rw [beq_eq_false_iff_ne]; omega
    have n7 : ¬ k = 18 := by omega
    have E : Hid (modeV k = 1) := by
      show _ = _
      unfold modeV
      rw [if_pos (by omega)]
    clear q
    go_enter Tryz.func193, Tryz.ntmps193
    go_wp2_with fail
    refine (H1.out _).mono ?_
    rintro e u ⟨rfl, rfl⟩
    go_wp2_with fail
    go_ret
    exact ⟨ret_int E.out.symm, rfl⟩
  · have H1 := hide (between_any k 2 15)
    rw [show btwB k 2 15 = false from decide_eq_false (by omega)] at H1
    have e2 : (k == 24) = false := by rw [beq_eq_false_iff_ne]; omega
    have n2 : ¬ k = 24 := by omega
    have e3 : (k == 28) = false := by rw [beq_eq_false_iff_ne]; omega
    have n3 : ¬ k = 28 := by omega
    have e4 : (k == 1) = false := by rw [beq_eq_false_iff_ne]; omega
    have n4 : ¬ k = 1 := by omega
    have H5 := hide (between_any k 19 22)
    rw [show btwB k 19 22 = false from decide_eq_false (by omega)] at H5
    have H6 := hide (isTicked_any k)
    rw [show tickB k = false from decide_eq_false (by omega)] at H6
    have e7 : (k == 18) = false := by rw [beq_eq_false_iff_ne]; omega
    have n7 : ¬ k = 18 := by omega
    have E : Hid (modeV k = 0) := by
      show _ = _
      unfold modeV
      rw [if_neg (by omega), if_neg (by omega), if_neg (by omega), if_neg (by omega)]
    clear q
    go_enter Tryz.func193, Tryz.ntmps193
    go_wp2_with fail
    refine (H1.out _).mono ?_
    rintro e u ⟨rfl, rfl⟩
    go_wp2_with fail
    refine (H5.out _).mono ?_
    rintro e u ⟨rfl, rfl⟩
    go_wp2_with fail
    refine (H6.out _).mono ?_
    rintro e u ⟨rfl, rfl⟩
    go_wp2_with fail
    go_ret
    exact ⟨ret_int E.out.symm, rfl⟩
end Go.Proofs.YtnojgejcmaajmaaGreatDoor

namespace Go.Proofs.YtnojgejcmaajmaaGreatDoor
open Go.RowKit
set_option maxRecDepth 100000
theorem ret_fndB {a b : ByteArray} {c d : Bool} (h : a = b) (g : c = d) : Ending.returned (.tuple #[.string a, .bool c]) = .returned (.tuple #[.string b, .bool d]) := by rw [h, g]
theorem fires_here {l : List Nd} {id : Int} : firesP l id = (hereB l.length id && fireB (kI l id)) := by
  unfold firesP hereB
  rw [Bool.and_assoc]
/-- A node that lies in the world, told by its number, behind a pointer that is known. -/
theorem nodes_ofW {w : World} {b o c : Nat} {l : List Nd} (hv : NodesV w (.slice (some ⟨b, o, none⟩) l.length c) l) {m : Nat} (hm : m < l.length) : ∃ va pk nk ck, NodeAt w b (o + m * 5) l[m] va (.slice pk nk ck) := by
  obtain ⟨b', o', va, pk, nk, ck, e, N⟩ := node_ofW hv hm
  cases e
  exact ⟨va, pk, nk, ck, N⟩
set_option maxHeartbeats 4000000 in
theorem sbFind1_any (s : ByteArray) (B : Nat) (x : ByteArray × ByteArray) (W : World) (hc : W.cell? ⟨B, 0, none⟩ = some (.string s)) :
    Calls Tryz.prog 142 #[.agg #[.string x.1, .string x.2], .pointer (some ⟨B, 0, none⟩)] W fun e w' => e = .returned (.bool (isN s x)) ∧ Below W.heap.size W w' := by
  have hB := World.block_lt_of_cell? _ _ hc
  have hne : B ≠ W.heap.size := by have : B < W.heap.size := hB; omega
  have E := hide (txt_beq x.1 s)
  unfold isN
  generalize x.1 = a at *
  generalize x.2 = b at *
  generalize hR : decide (a = s) = R at *
  clear hR
  go_enter Tryz.func142, Tryz.ntmps142
  go_wp2_with fail
  go_ret
  exact ⟨ret_bool E.out, (Below.refl _ W).alloc (Nat.le_refl _) _⟩
theorem entersSbFind : ∀ args w, (callFunc 142 args).run Tryz.prog w = .ok (.enter 142 args) w := Go.Proofs.enters_of Tryz.func142 (by kernel_rfl) rfl
set_option maxHeartbeats 4000000 in
theorem sbFind_any (n : Nd) (va : Value) (pk : Option Addr) (nk ck : Nat) (s : ByteArray) (w : World) (hv : AttrsV w va n.attrs) (hl : n.attrs.length ≤ 4398046511104) :
    Calls Tryz.prog 76 #[.agg #[.string n.name, .string n.text, va, .int .i64 n.parent, .slice pk nk ck], .string s] w fun e w' => e = .returned (.tuple #[.string (fndS n.attrs s), .bool (hasA n s)]) ∧ Below w.heap.size w w' := by
  have B0 : Hid (Below w.heap.size w ((w.alloc (.cells #[.string n.name, .string n.text, va, .int .i64 n.parent, .slice pk nk ck] 57)).alloc (.cells #[.string s] 9))) := ((Below.refl _ w).alloc (Nat.le_refl _) _).alloc (by simp) _
  have PR : PredA 142 #[.pointer (some ⟨w.heap.size + 1, 0, none⟩)] (isN s) ((w.alloc (.cells #[.string n.name, .string n.text, va, .int .i64 n.parent, .slice pk nk ck] 57)).alloc (.cells #[.string s] 9)) := fun W x hb =>
    sbFind1_any s (w.heap.size + 1) x W ((hb.cell (by simp)).trans (by simp))
  have HC := hide (indexFuncA_any va n.attrs (isN s) 142 #[.pointer (some ⟨w.heap.size + 1, 0, none⟩)] entersSbFind ((w.alloc (.cells #[.string n.name, .string n.text, va, .int .i64 n.parent, .slice pk nk ck] 57)).alloc (.cells #[.string s] 9)) (hv.below B0.out) PR hl)
  have HIT := hide (fun k hk (h : n.attrs.findIdx? (isN s) = some k) => fnd_hit (ax := n.attrs) (n := s) (k := k) hk h)
  have MISS := hide (fun (h : n.attrs.findIdx? (isN s) = none) => fnd_miss (ax := n.attrs) (n := s) h)
  clear PR
  unfold hasA
  obtain ⟨p, c, rfl, hk⟩ := hv
  generalize fndS n.attrs s = R1 at *
  generalize (findA n.attrs s).isSome = R2 at *
  generalize n.name = n0 at *
  generalize n.text = n1 at *
  generalize n.parent = n3 at *
  generalize n.attrs = ax at *
  cases h : ax.findIdx? (isN s) with
  | none =>
    have E := hide (MISS.out h)
    rw [h, show findV none = -1 from rfl] at HC
    clear hk HIT MISS h
    go_enter Tryz.func76, Tryz.ntmps76
    go_wp2_with fail
    refine HC.out.mono ?_
    rintro e w1 ⟨rfl, b1⟩
    go_wp2_with fail
    go_ret2
    exact ⟨ret_fndB E.out.1.symm E.out.2.symm, chain B0.out b1⟩
  | some i =>
    obtain ⟨hi, _, _⟩ := List.findIdx?_eq_some_iff_getElem.1 h
    have E := hide (HIT.out i hi h)
    rw [h, show findV (some i) = (i : Int) from rfl] at HC
    have i0 : (0 : Int) ≤ (i : Int) := by omega
    have i1 : (i : Int) < (ax.length : Int) := by omega
    have i2 : ¬ (i : Int) < 0 := by omega
    obtain ⟨b, o, rfl, hc⟩ : ∃ b o, p = some ⟨b, o, none⟩ ∧ ∀ i (h : i < ax.length), w.cell? ⟨b, o + i * 2, none⟩ = some (.string ax[i].1) ∧ w.cell? ⟨b, o + i * 2 + 1, none⟩ = some (.string ax[i].2) := by
      rcases hk with t | t
      · rw [t] at hi; simp at hi
      · exact t
    have c1 := hide (hc i hi).2
    have CN := hide (show ((w.alloc (.cells #[.string n0, .string n1, .slice (some ⟨b, o, none⟩) ax.length c, .int .i64 n3, .slice pk nk ck] 57)).alloc (.cells #[.string s] 9)).cell? ⟨w.heap.size, 2, none⟩ = some (.slice (some ⟨b, o, none⟩) ax.length c) by simp)
    clear hc HIT MISS h
    generalize ax[i].2 = t at *
    go_enter Tryz.func76, Tryz.ntmps76
    go_wp2_with fail
    refine HC.out.mono ?_
    rintro e w1 ⟨rfl, b1⟩
    have y1 := cell_below (cell_below c1.out B0.out) b1
    have y2 := cell_below CN.out b1
    go_wp2_with fail
    go_ret2
    exact ⟨ret_fndB E.out.1.symm E.out.2.symm, chain B0.out b1⟩
set_option maxHeartbeats 8000000 in
theorem sbFires_any (v : Value) (l : List Nd) (id : Int) (w : World) (hv : NodesV w v l) (hz : DocSz l) (hT : KTabs w) :
    Calls Tryz.prog 29 #[v, .int .i64 id] w fun e w' => e = .returned (.bool (firesP l id)) ∧ Below w.heap.size w w' := by
  obtain ⟨p, c, rfl⟩ := nds_formW hv
  have HI := hide (fun W => sbIsThere_any p l.length c id W)
  have E : Hid (firesP l id = (hereB l.length id && fireB (kI l id))) := by show _ = _; exact fires_here
  generalize firesP l id = RES at *
  cases h : hereB l.length id with
  | false =>
    rw [h, Bool.false_and] at E
    rw [h] at HI
    clear hv hz hT h
    go_enter Tryz.func29, Tryz.ntmps29
    go_wp2_with fail
    refine (HI.out _).mono ?_
    rintro e w1 ⟨rfl, hu⟩
    obtain rfl : w = w1 := hu.symm
    go_wp2_with fail
    go_ret
    exact ⟨ret_bool E.out.symm, Below.refl _ _⟩
  | true =>
    obtain ⟨m, rfl, hm⟩ := here_of h
    rw [h, Bool.true_and] at E
    rw [h] at HI
    obtain ⟨b, o, va, pk, nk, ck, rfl, N⟩ := node_ofW hv hm
    have nz := hz.nds _ (List.getElem_mem hm)
    have HO := hide (fun W (hb : Below w.heap.size w W) => of_any l[m] va (.slice pk nk ck) W (hT.below hb) (N.at_.below hb) nz.attrs nz.tx)
    have EK : kOf l[m].name (tyOf l[m].attrs) = kI l (m : Int) := by unfold kI kN; rw [Int.toNat_natCast, nd_at hm]
    rw [EK] at HO
    clear EK
    obtain ⟨pa, ca, rfl, hxx⟩ := N.at_
    clear hxx
    have c0 := hide N.name
    have c1 := hide N.text
    have c2 := hide N.attrs
    have c3 := hide N.parent
    have c4 := hide N.kids
    have m0 : (0 : Int) ≤ (m : Int) := by omega
    have m1 : (m : Int) < (l.length : Int) := by omega
    clear N nz
    have HS := hide (fun W => fires_any (kI l (m : Int)) W)
    clear hv hz hT h
    generalize fireB (kI l (m : Int)) = R at *
    generalize kI l (m : Int) = kk at *
    generalize l[m].name = n0 at *
    generalize l[m].text = n1 at *
    generalize l[m].parent = n3 at *
    generalize l[m].attrs.length = n5 at *
    have u0 := cell_below c0.out (Below.refl _ w)
    have u1 := cell_below c1.out (Below.refl _ w)
    have u2 := cell_below c2.out (Below.refl _ w)
    have u3 := cell_below c3.out (Below.refl _ w)
    have u4 := cell_below c4.out (Below.refl _ w)
    go_enter Tryz.func29, Tryz.ntmps29
    go_wp2_with fail
    refine (HI.out _).mono ?_
    rintro e w1 ⟨rfl, hu⟩
    obtain rfl : w = w1 := hu.symm
    go_wp2_with fail
    refine (HO.out _ (Below.refl _ _)).mono ?_
    rintro e w2 ⟨rfl, b2⟩
    go_wp2_with fail
    refine (HS.out _).mono ?_
    rintro e w3 ⟨rfl, hu⟩
    obtain rfl : w2 = w3 := hu.symm
    go_wp2_with fail
    go_ret
    exact ⟨ret_bool E.out.symm, b2⟩

end Go.Proofs.YtnojgejcmaajmaaGreatDoor
