/- Addresses of mail as lists of bytes. Entries told by a text and read again, as functions of lists. A text cut at a sign of one byte, and the entries of a text piece by piece. strings.ContainsAny of any text at the two ends of lines. The program's Fit, toldType, breaks, carried, quote, unquote of layer 20. What strings.Cut answers for a sign of one byte. The program's Decode of layer 19. The program's quoted and read of layer 20. -/
import Derived.Test.YtnojgejcmaajmaaGreatDoorJsb48
import Derived.Test.YtnojgejcmaajmaaGreatDoorJsb49

namespace Go.Proofs.YtnojgejcmaajmaaGreatDoor
open Go.RowKit
/-- A text ahead of the first of a row of texts. -/
def prep (a : List UInt8) : List (List UInt8) → List (List UInt8)
  | [] => [a]
  | h :: t => (a ++ h) :: t
/-- The texts between a sign. -/
def splitL (c : UInt8) : List UInt8 → List (List UInt8)
  | [] => [[]]
  | x :: l => if x = c then [] :: splitL c l else prep [x] (splitL c l)
theorem split_hit {c : UInt8} (l : List UInt8) : splitL c (c :: l) = [] :: splitL c l := if_pos rfl
theorem split_miss {c x : UInt8} (l : List UInt8) (h : ¬ x = c) : splitL c (x :: l) = prep [x] (splitL c l) := if_neg h
theorem split_alone {c : UInt8} : ∀ {l : List UInt8}, c ∉ l → splitL c l = [l]
  | [], _ => rfl
  | x :: l, h => by
    rw [split_miss l (fun e => h (by rw [e]; exact List.mem_cons_self ..)), split_alone (fun e => h (List.mem_cons_of_mem _ e))]
    rfl
theorem split_sign {c : UInt8} : ∀ {a : List UInt8} (l : List UInt8), c ∉ a → splitL c (a ++ c :: l) = a :: splitL c l
  | [], l, _ => split_hit l
  | x :: a, l, h => by
    rw [List.cons_append, split_miss _ (fun e => h (by rw [e]; exact List.mem_cons_self ..)), split_sign l (fun e => h (List.mem_cons_of_mem _ e))]
    rfl
theorem split_join {c : UInt8} : ∀ (ps : List (List UInt8)), ps ≠ [] → (∀ p ∈ ps, c ∉ p) → splitL c (joinL c ps) = ps
  | [], h, _ => absurd rfl h
  | [a], _, h => split_alone (h a (List.mem_cons_self ..))
  | a :: b :: t, _, h => by
    show splitL c (a ++ c :: joinL c (b :: t)) = _
    rw [split_sign _ (h a (List.mem_cons_self ..)), split_join (b :: t) (by simp) (fun p hp => h p (List.mem_cons_of_mem _ hp))]
end Go.Proofs.YtnojgejcmaajmaaGreatDoor

namespace Go.Proofs.YtnojgejcmaajmaaGreatDoor
open Go.RowKit
def unf (l : List UInt8) : List UInt8 := decL (unplus l)
def notEq (c : UInt8) : Bool := c != 61
def decE (p : List UInt8) : En := ⟨txt (unf (p.takeWhile notEq)), txt (unf ((p.dropWhile notEq).drop 1)), false, ⟨#[]⟩, ⟨#[]⟩⟩
def someB (p : List UInt8) : Bool := !p.isEmpty
def decU (s : List UInt8) : List En := ((splitL 38 s).filter someB).map decE
theorem unf_form (l : List UInt8) : unf (formL l) = l := unform_form l
/-- The signs of a text of entries. -/
def urlB (c : UInt8) : Bool := plainB c || hasB [42, 45, 46, 95, 43, 37, 38, 61] c
def frmB (c : UInt8) : Bool := plainB c || hasB [42, 45, 46, 95, 43, 37] c
theorem hexD_plain : ∀ n : Fin 16, plainB (hexD n.val) = true := by decide
theorem formB_signs : ∀ c : UInt8, (formB c).all frmB = true := by
  intro c
  unfold formB
  split
  · decide
  · unfold encB
    cases h : escB 7 c with
    | true =>
      have h1 := hexD_plain ⟨c.toNat / 16, by have := c.toNat_lt; omega⟩
      have h2 := hexD_plain ⟨c.toNat % 16, by omega⟩
      have h1 : plainB (hexD (c.toNat / 16)) = true := h1
      have h2 : plainB (hexD (c.toNat % 16)) = true := h2
      simp only [if_true, List.all_cons, List.all_nil, Bool.and_true]
      unfold frmB
      rw [h1, h2, Bool.true_or, Bool.true_or]; decide
    | false =>
      rw [escB_form_all] at h
      simp only [Bool.false_eq_true, if_false, List.all_cons, List.all_nil, Bool.and_true]
      unfold frmB
      cases hp : plainB c with
      | true => rfl
      | false =>
        rw [hp] at h
        have h : (!hasB formSg c) = false := by simpa using h
        have h : hasB formSg c = true := by simpa using h
        unfold hasB formSg at h
        rw [List.contains_iff_mem] at h
        unfold hasB
        rw [Bool.false_or, List.contains_iff_mem]
        simp only [List.mem_cons, List.not_mem_nil, or_false] at h ⊢
        rcases h with h | h | h | h <;> simp [h]
theorem form_signs (l : List UInt8) : ∀ c ∈ formL l, frmB c = true := by
  intro c hc
  unfold formL at hc
  obtain ⟨x, _, hx⟩ := List.mem_flatMap.1 hc
  exact List.all_eq_true.1 (formB_signs x) c hx
theorem frm_38 : frmB 38 = false := by decide
theorem frm_61 : frmB 61 = false := by decide
theorem frm_url {c : UInt8} (h : frmB c = true) : urlB c = true := by
  unfold frmB at h
  unfold urlB
  cases hp : plainB c with
  | true => rfl
  | false =>
    rw [hp, Bool.false_or] at h
    rw [Bool.false_or]
    unfold hasB at h ⊢
    rw [List.contains_iff_mem] at h ⊢
    simp only [List.mem_cons, List.not_mem_nil, or_false] at h ⊢
    rcases h with h | h | h | h | h | h <;> simp [h]
theorem enc_free (e : En) : (38 : UInt8) ∉ encE e := by
  unfold encE
  rw [List.mem_append, List.mem_cons]
  rintro (h | h | h)
  · have := form_signs _ _ h; rw [frm_38] at this; cases this
  · cases h
  · have := form_signs _ _ h; rw [frm_38] at this; cases this
theorem enc_some (e : En) : someB (encE e) = true := by
  unfold someB encE
  cases formL e.name.data.toList <;> rfl
theorem take_eq {u k : List UInt8} (h : (61 : UInt8) ∉ u) : (u ++ 61 :: k).takeWhile notEq = u ∧ (u ++ 61 :: k).dropWhile notEq = 61 :: k := by
  induction u with
  | nil => exact ⟨rfl, rfl⟩
  | cons x u ih =>
    have hx : notEq x = true := by
      unfold notEq
      rw [bne_iff_ne]
      intro t
      exact h (by rw [t]; exact List.mem_cons_self)
    have ih := ih (fun t => h (List.mem_cons_of_mem _ t))
    constructor
    · rw [List.cons_append, List.takeWhile_cons_of_pos hx, ih.1]
    · rw [List.cons_append, List.dropWhile_cons_of_pos hx, ih.2]
theorem form_61 (l : List UInt8) : (61 : UInt8) ∉ formL l := fun h => by
  have := form_signs _ _ h; rw [frm_61] at this; cases this
theorem dec_encE (e : En) (hf : e.file = false) (h1 : e.fname = ⟨#[]⟩) (h2 : e.typ = ⟨#[]⟩) : decE (encE e) = e := by
  unfold decE encE
  obtain ⟨t1, t2⟩ := take_eq (k := formL e.val.data.toList) (form_61 e.name.data.toList)
  rw [t1, t2]
  show En.mk (txt (unf (formL e.name.data.toList))) (txt (unf (formL e.val.data.toList))) false ⟨#[]⟩ ⟨#[]⟩ = e
  rw [unf_form, unf_form]
  obtain ⟨a, b, c, d, f⟩ := e
  have hf : c = false := hf
  have h1 : d = ⟨#[]⟩ := h1
  have h2 : f = ⟨#[]⟩ := h2
  subst hf h1 h2
  rfl
theorem back_u (l : List En) : decU (encU l) = plainU l := by
  unfold decU encU
  by_cases h : l = []
  · subst h; rfl
  · have hne : (plainU l).map encE ≠ [] := by
      unfold plainU
      intro t
      rw [List.map_eq_nil_iff, List.map_eq_nil_iff] at t
      exact h t
    rw [split_join _ hne (by
      intro p hp
      obtain ⟨e, _, rfl⟩ := List.mem_map.1 hp
      exact enc_free e)]
    rw [List.filter_eq_self.2 (by
      intro p hp
      obtain ⟨e, _, rfl⟩ := List.mem_map.1 hp
      exact enc_some e)]
    rw [List.map_map]
    unfold plainU
    rw [List.map_map]
    apply List.map_congr_left
    intro e _
    exact dec_encE (plE e) rfl rfl rfl
theorem join_mem {c x : UInt8} : ∀ {ps : List (List UInt8)}, x ∈ joinL c ps → x = c ∨ ∃ p ∈ ps, x ∈ p
  | [], h => by cases h
  | [p], h => .inr ⟨p, List.mem_cons_self, h⟩
  | p :: q :: ps, h => by
    have h : x ∈ p ++ c :: joinL c (q :: ps) := h
    rw [List.mem_append, List.mem_cons] at h
    rcases h with h | h | h
    · exact .inr ⟨p, List.mem_cons_self, h⟩
    · exact .inl h
    · rcases join_mem h with h | ⟨r, hr, hx⟩
      · exact .inl h
      · exact .inr ⟨r, List.mem_cons_of_mem _ hr, hx⟩
theorem signs_u (l : List En) : ∀ c ∈ encU l, urlB c = true := by
  intro c hc
  unfold encU at hc
  rcases join_mem hc with rfl | ⟨p, hp, hx⟩
  · decide
  · obtain ⟨e, _, rfl⟩ := List.mem_map.1 hp
    unfold encE at hx
    rw [List.mem_append, List.mem_cons] at hx
    rcases hx with h | rfl | h
    · exact frm_url (form_signs _ _ h)
    · decide
    · exact frm_url (form_signs _ _ h)
end Go.Proofs.YtnojgejcmaajmaaGreatDoor

namespace Go.Proofs.YtnojgejcmaajmaaGreatDoor
open Go.RowKit
def neB (c x : UInt8) : Bool := x != c
def hdW (c : UInt8) (l : List UInt8) : List UInt8 := l.takeWhile (neB c)
def tlW (c : UInt8) (l : List UInt8) : List UInt8 := (l.dropWhile (neB c)).drop 1
theorem ne_of {c x : UInt8} {a : List UInt8} (h : c ∉ a) (hx : x ∈ a) : neB c x = true := by
  unfold neB; rw [bne_iff_ne]; intro t; exact h (by rw [← t]; exact hx)
theorem hdW_no {c : UInt8} {l : List UInt8} (h : c ∉ l) : hdW c l = l ∧ tlW c l = [] := by
  unfold hdW tlW
  induction l with
  | nil => exact ⟨rfl, rfl⟩
  | cons x l ih =>
    have ih := ih (fun t => h (List.mem_cons_of_mem _ t))
    have hx := ne_of h List.mem_cons_self
    rw [List.takeWhile_cons_of_pos hx, List.dropWhile_cons_of_pos hx, ih.1]
    exact ⟨rfl, ih.2⟩
theorem hdW_yes {c : UInt8} {a b : List UInt8} (h : c ∉ a) : hdW c (a ++ c :: b) = a ∧ tlW c (a ++ c :: b) = b := by
  unfold hdW tlW
  induction a with
  | nil =>
    have hx : ¬ (neB c c = true) := by unfold neB; simp
    rw [List.nil_append, List.takeWhile_cons_of_neg hx, List.dropWhile_cons_of_neg hx]
    exact ⟨rfl, rfl⟩
  | cons x a ih =>
    have ih := ih (fun t => h (List.mem_cons_of_mem _ t))
    have hx := ne_of h List.mem_cons_self
    rw [List.cons_append, List.takeWhile_cons_of_pos hx, List.dropWhile_cons_of_pos hx, ih.1]
    exact ⟨rfl, ih.2⟩
theorem cutW_is (c : UInt8) (l : List UInt8) : Lib.cut l [c] = (hdW c l, tlW c l, hasB l c) := by
  by_cases h : c ∈ l
  · obtain ⟨a, b, rfl, ha⟩ := ix_first h
    rw [cutc_yes ha, (hdW_yes ha).1, (hdW_yes ha).2]
    unfold hasB
    rw [List.contains_iff_mem.2 h]
  · rw [cutc_no h, (hdW_no h).1, (hdW_no h).2]
    unfold hasB
    cases e : l.contains c with
    | false => rfl
    | true => exact absurd (List.contains_iff_mem.1 e) h
theorem hdW_len (c : UInt8) (l : List UInt8) : (hdW c l).length ≤ l.length := by
  unfold hdW; exact (List.takeWhile_sublist _).length_le
theorem tlW_len (c : UInt8) (l : List UInt8) : (tlW c l).length ≤ l.length - 1 := by
  unfold tlW
  rw [List.length_drop]
  have := (List.dropWhile_sublist (neB c) (l := l)).length_le
  omega
/-- The entry of one piece, if it isn't empty. -/
def oneU (p : List UInt8) : List En := if p = [] then [] else [decE p]
theorem decU_one (p : List UInt8) (h : p = [] ∨ p ≠ []) : ([p].filter someB).map decE = oneU p := by
  unfold oneU someB
  cases p with
  | nil => rfl
  | cons => rfl
theorem decU_cut (l : List UInt8) : decU l = oneU (hdW 38 l) ++ decU (tlW 38 l) := by
  by_cases h : (38 : UInt8) ∈ l
  · obtain ⟨a, b, rfl, ha⟩ := ix_first h
    rw [(hdW_yes ha).1, (hdW_yes ha).2]
    unfold decU
    rw [split_sign b ha, List.filter_cons, ← decU_one a (Decidable.em _)]
    cases e : someB a with
    | true => simp [e]
    | false => simp [e]
  · rw [(hdW_no h).1, (hdW_no h).2]
    have e : decU ([] : List UInt8) = [] := rfl
    rw [e, List.append_nil, ← decU_one l (Decidable.em _)]
    unfold decU
    rw [split_alone h]
theorem decE_cut (p : List UInt8) : decE p = ⟨txt (unf (hdW 61 p)), txt (unf (tlW 61 p)), false, ⟨#[]⟩, ⟨#[]⟩⟩ := rfl
theorem oneU_some {p : List UInt8} (h : p ≠ []) : oneU p = [decE p] := if_neg h
end Go.Proofs.YtnojgejcmaajmaaGreatDoor

namespace Go.Proofs.YtnojgejcmaajmaaGreatDoor
open Go.Shelf Go.RowKit
def acren : Go.Shelf.Ren := ⟨fun | 119 => 251 | 137 => 235 | 152 => 242 | 153 => 217 | 217 => 208 | 224 => 210 | 225 => 209 | 226 => 243 | 227 => 244 | 228 => 245 | 266 => 238 | n => n, fun | 0 => 0 | 3 => 3 | 4 => 4 | 5 => 5 | 9 => 9 | 21 => 21 | 46 => 171 | 72 => 94 | 116 => 190 | 117 => 191 | 124 => 198 | n => n, fun  | n => n⟩
theorem lays152 : Go.Proofs.Lays.n152 Tryz.prog acren := {
  mixed := by kernel_rfl
  f119 := Tryz.func251.trans (congrArg some (by kernel_rfl))
  f137 := Tryz.func235.trans (congrArg some (by kernel_rfl))
  f152 := Tryz.func242.trans (congrArg some (by kernel_rfl))
  f217 := Tryz.func208.trans (congrArg some (by kernel_rfl))
  f224 := Tryz.func210.trans (congrArg some (by kernel_rfl))
  f225 := Tryz.func209.trans (congrArg some (by kernel_rfl))
  f266 := Tryz.func238.trans (congrArg some (by kernel_rfl))
  t0 := Tryz.underlying0
  a0 := Tryz.isAgg0
  z0 := Tryz.sizeOf0
  v0 := Tryz.zeroValue0
  t3 := Tryz.underlying3
  a3 := Tryz.isAgg3
  z3 := Tryz.sizeOf3
  v3 := Tryz.zeroValue3
  t4 := Tryz.underlying4
  a4 := Tryz.isAgg4
  z4 := Tryz.sizeOf4
  v4 := Tryz.zeroValue4
  t5 := Tryz.underlying5
  a5 := Tryz.isAgg5
  z5 := Tryz.sizeOf5
  v5 := Tryz.zeroValue5
  t9 := Tryz.underlying9
  a9 := Tryz.isAgg9
  z9 := Tryz.sizeOf9
  v9 := Tryz.zeroValue9
  t21 := Tryz.underlying21
  a21 := Tryz.isAgg21
  z21 := Tryz.sizeOf21
  v21 := Tryz.zeroValue21
  t46 := Tryz.underlying171
  a46 := Tryz.isAgg171
  z46 := Tryz.sizeOf171
  v46 := Tryz.zeroValue171 }
theorem lays153 : Go.Proofs.Lays.n153 Tryz.prog acren := {
  mixed := by kernel_rfl
  f119 := Tryz.func251.trans (congrArg some (by kernel_rfl))
  f137 := Tryz.func235.trans (congrArg some (by kernel_rfl))
  f152 := Tryz.func242.trans (congrArg some (by kernel_rfl))
  f153 := Tryz.func217.trans (congrArg some (by kernel_rfl))
  f217 := Tryz.func208.trans (congrArg some (by kernel_rfl))
  f224 := Tryz.func210.trans (congrArg some (by kernel_rfl))
  f225 := Tryz.func209.trans (congrArg some (by kernel_rfl))
  f226 := Tryz.func243.trans (congrArg some (by kernel_rfl))
  f227 := Tryz.func244.trans (congrArg some (by kernel_rfl))
  f228 := Tryz.func245.trans (congrArg some (by kernel_rfl))
  f266 := Tryz.func238.trans (congrArg some (by kernel_rfl))
  t0 := Tryz.underlying0
  a0 := Tryz.isAgg0
  z0 := Tryz.sizeOf0
  v0 := Tryz.zeroValue0
  t3 := Tryz.underlying3
  a3 := Tryz.isAgg3
  z3 := Tryz.sizeOf3
  v3 := Tryz.zeroValue3
  t4 := Tryz.underlying4
  a4 := Tryz.isAgg4
  z4 := Tryz.sizeOf4
  v4 := Tryz.zeroValue4
  t5 := Tryz.underlying5
  a5 := Tryz.isAgg5
  z5 := Tryz.sizeOf5
  v5 := Tryz.zeroValue5
  t9 := Tryz.underlying9
  a9 := Tryz.isAgg9
  z9 := Tryz.sizeOf9
  v9 := Tryz.zeroValue9
  t21 := Tryz.underlying21
  a21 := Tryz.isAgg21
  z21 := Tryz.sizeOf21
  v21 := Tryz.zeroValue21
  t46 := Tryz.underlying171
  a46 := Tryz.isAgg171
  z46 := Tryz.sizeOf171
  v46 := Tryz.zeroValue171
  t116 := Tryz.underlying190
  a116 := Tryz.isAgg190
  z116 := Tryz.sizeOf190
  t117 := Tryz.underlying191
  a117 := Tryz.isAgg191
  z117 := Tryz.sizeOf191
  v117 := Tryz.zeroValue191
  t124 := Tryz.underlying198
  a124 := Tryz.isAgg198
  z124 := Tryz.sizeOf198
  v124 := Tryz.zeroValue198 }
theorem lays226 : Go.Proofs.Lays.n226 Tryz.prog acren := {
  mixed := by kernel_rfl
  f226 := Tryz.func243.trans (congrArg some (by kernel_rfl))
  t3 := Tryz.underlying3
  a3 := Tryz.isAgg3
  z3 := Tryz.sizeOf3
  v3 := Tryz.zeroValue3
  t4 := Tryz.underlying4
  a4 := Tryz.isAgg4
  z4 := Tryz.sizeOf4
  v4 := Tryz.zeroValue4 }
/-- A short text of ASCII. -/
structure AscW (s : ByteArray) : Prop where
  hi : s.size ≤ 100
  low : ∀ b ∈ s.data.toList, b.toNat < 128
theorem indexByte_geW (c : UInt8) : ∀ l : List UInt8, -1 ≤ Lib.indexByte l c
  | [] => Int.le_refl _
  | x :: t => by
    have := indexByte_geW c t
    unfold Lib.indexByte
    split
    · omega
    · split
      · omega
      · omega
theorem indexByte_atW (c : UInt8) : ∀ l : List UInt8, 0 ≤ Lib.indexByte l c ↔ c ∈ l
  | [] => by constructor <;> intro h <;> cases h
  | x :: t => by
    have ih := indexByte_atW c t
    have hg := indexByte_geW c t
    unfold Lib.indexByte
    by_cases h : x = c
    · simp [h]
    · have hc : ¬ c = x := fun e => h e.symm
      have hb : ¬ (x == c) = true := by simpa using h
      rw [if_neg hb, List.mem_cons, ← ih]
      by_cases g : Lib.indexByte t c = -1
      · simp [g, hc]
      · have gb : ¬ (Lib.indexByte t c == -1) = true := by simpa using g
        rw [if_neg gb]
        constructor
        · intro _; right; omega
        · intro _; omega
theorem indexByte_noneW (s : ByteArray) (c : UInt8) (w : World) (h : ¬ c ∈ s.data.toList) :
    Calls Tryz.prog 235 #[.string s, .int .u8 (c.toNat : Int)] w fun e w' => e = .returned (.int .i64 (-1)) ∧ w' = w := by
  have := Any.strings_IndexByte lays137 s (c.toNat : Int) w
  rw [show ((c.toNat : Int)).toNat.toUInt8 = c by simp] at this
  refine this.mono ?_
  rintro e w1 ⟨rfl, rfl⟩
  refine ⟨ret_int ?_, rfl⟩
  have e := indexByte_atW c s.data.toList
  have := indexByte_geW c s.data.toList
  have : ¬ 0 ≤ Lib.indexByte s.data.toList c := fun g => h (e.1 g)
  omega
def runeW (r : Int) : Bool := decide ((0 ≤ r ∧ r < 55296) ∨ (57343 < r ∧ r ≤ 1114111))
theorem runeW_yes {r : Int} (h : (0 ≤ r ∧ r < 55296) ∨ (57343 < r ∧ r ≤ 1114111)) : runeW r = true := decide_eq_true h
theorem runeW_no {r : Int} (h : ¬ ((0 ≤ r ∧ r < 55296) ∨ (57343 < r ∧ r ≤ 1114111))) : runeW r = false := decide_eq_false h
set_option maxHeartbeats 1000000 in
theorem validRuneW (r : Int) (w : World) :
    Calls Tryz.prog 251 #[.int .i32 r] w fun e w' => e = .returned (.bool (runeW r)) ∧ w' = w := by
  by_cases h1 : 0 ≤ r
  · by_cases h2 : r < 55296
    · go_enter Tryz.func251, Tryz.ntmps251
      go_wp2_with fail
      go_ret
      exact ⟨ret_bool (runeW_yes (by omega)).symm, rfl⟩
    · by_cases h3 : 57343 < r
      · by_cases h4 : r ≤ 1114111
        · go_enter Tryz.func251, Tryz.ntmps251
          go_wp2_with fail
          go_ret
          exact ⟨ret_bool (runeW_yes (by omega)).symm, rfl⟩
        · go_enter Tryz.func251, Tryz.ntmps251
          go_wp2_with fail
          go_ret
          exact ⟨ret_bool (runeW_no (by omega)).symm, rfl⟩
      · go_enter Tryz.func251, Tryz.ntmps251
        go_wp2_with fail
        go_ret
        exact ⟨ret_bool (runeW_no (by omega)).symm, rfl⟩
  · have h3 : ¬ 57343 < r := by omega
    go_enter Tryz.func251, Tryz.ntmps251
    go_wp2_with fail
    go_ret
    exact ⟨ret_bool (runeW_no (by omega)).symm, rfl⟩
/-- The last byte of a rune's text that is none of ASCII. -/
theorem enc_lastW {r : Int} (h : (128 ≤ r ∧ r < 55296) ∨ (57343 < r ∧ r ≤ 1114111)) : 2 ≤ (Utf8.encode r).size ∧ (Utf8.encode r).size ≤ 4 ∧ ∃ (hl : (Utf8.encode r).size - 1 < (Utf8.encode r).size), 128 ≤ ((Utf8.encode r)[(Utf8.encode r).size - 1]).toNat := by
  have hv : Utf8.valid r = true := by unfold Utf8.valid; simp; omega
  obtain ⟨n, rfl⟩ : ∃ n : Nat, r = (n : Int) := ⟨r.toNat, by omega⟩
  have h128 : ¬ n < 128 := by omega
  have hn : n ≤ 1114111 := by omega
  have hm : n % 64 < 64 := Nat.mod_lt _ (by decide)
  have E : Utf8.encode (n : Int) = if n < 2048 then ⟨#[UInt8.ofNat (192 + n / 64), UInt8.ofNat (128 + n % 64)]⟩ else if n < 65536 then ⟨#[UInt8.ofNat (224 + n / 4096), UInt8.ofNat (128 + n / 64 % 64), UInt8.ofNat (128 + n % 64)]⟩ else ⟨#[UInt8.ofNat (240 + n / 262144), UInt8.ofNat (128 + n / 4096 % 64), UInt8.ofNat (128 + n / 64 % 64), UInt8.ofNat (128 + n % 64)]⟩ := by
    unfold Utf8.encode
    rw [if_pos hv]
    simp only [Int.toNat_natCast]
    rw [if_neg h128]
  have B : (UInt8.ofNat (128 + n % 64)).toNat = 128 + n % 64 := by
    rw [UInt8.toNat_ofNat']; omega
  generalize Utf8.encode (n : Int) = t at E ⊢
  split at E
  · subst E
    refine ⟨by show 2 ≤ 2; omega, by show 2 ≤ 4; omega, by show 2 - 1 < 2; omega, ?_⟩
    show 128 ≤ (UInt8.ofNat (128 + n % 64)).toNat
    omega
  · split at E
    · subst E
      refine ⟨by show 2 ≤ 3; omega, by show 3 ≤ 4; omega, by show 3 - 1 < 3; omega, ?_⟩
      show 128 ≤ (UInt8.ofNat (128 + n % 64)).toNat
      omega
    · subst E
      refine ⟨by show 2 ≤ 4; omega, by show 4 ≤ 4; omega, by show 4 - 1 < 4; omega, ?_⟩
      show 128 ≤ (UInt8.ofNat (128 + n % 64)).toNat
      omega
theorem index_anyW (s : ByteArray) (i : Int) (j : Nat) (h : i = j) (hj : j < s.size) (w : World) : (Instr.index 9 (.string s) (.int .i64 i)).run Tryz.prog w = .ok (.int .u8 (s[j].toNat : Int)) w := by
  subst h
  rw [run_index_string _ _ _ _ _ Tryz.underlying9, dif_pos ⟨by omega, by omega⟩]
  rfl
theorem wrap_idW (z : Int) (h0 : -9223372036854775808 ≤ z) (h1 : z ≤ 9223372036854775807) : IntKind.i64.wrap z = z := by
  rw [IntKind.wrap_i64]; omega
theorem exit_in_blockW {n : Nat} {Q : Exit → Act → World → Prop} {a : Act} {w : World} (h : Q .ret a w) : Exit.inBlock n Q .ret a w := h
theorem not_highW {s : ByteArray} (h : AscW s) {c : UInt8} (hc : 128 ≤ c.toNat) (k n : Nat) : ¬ c ∈ (s.extract k n).data.toList := by
  intro hm
  have : c ∈ s.data.toList := by
    have e : (s.extract k n).data.toList = (s.data.toList.drop k).take (n - k) := by simp [List.take_drop]
    rw [e] at hm
    exact List.mem_of_mem_drop (List.mem_of_mem_take hm)
  have := h.low c this
  omega
theorem low_atW {s : ByteArray} (h : AscW s) (k : Nat) (hk : k < s.size) : s[k].toNat < 128 := h.low _ (by
  have : s[k] = s.data.toList[k]'(by simpa using hk) := by simp; rfl
  rw [this]; exact List.getElem_mem _)
set_option maxHeartbeats 4000000 in
set_option maxRecDepth 1000000 in
theorem indexRune_oddW (s : ByteArray) (r : Int) (w : World) (hr : 128 ≤ r) (hv : ¬ ((0 ≤ r ∧ r < 55296) ∨ (57343 < r ∧ r ≤ 1114111))) :
    Calls Tryz.prog 242 #[.string s, .int .i32 r] w fun e w' => e = .returned (.int .i64 (-1)) ∧ Below w.heap.size w w' := by
  have e1 : 0 ≤ r := by omega
  have e3 : ¬ r < 128 := by omega
  have e2 : (r == 65533) = false := by rw [beq_eq_false_iff_ne]; omega
  have HV := hide (validRuneW r w)
  rw [runeW_no hv] at HV
  clear hv
  go_enter Tryz.func242, Tryz.ntmps242
  go_wp2_with fail
  refine HV.out.mono ?_
  rintro e w1 ⟨rfl, rfl⟩
  go_wp2_with fail
  go_ret
  exact ⟨rfl, Below.refl _ _⟩
set_option maxHeartbeats 4000000 in
set_option maxRecDepth 1000000 in
theorem indexRune_highW (s : ByteArray) (r : Int) (w : World) (hs : AscW s) (hr : 128 ≤ r) (hv : (0 ≤ r ∧ r < 55296) ∨ (57343 < r ∧ r ≤ 1114111)) (h5 : r ≠ 65533) :
    Calls Tryz.prog 242 #[.string s, .int .i32 r] w fun e w' => e = .returned (.int .i64 (-1)) ∧ Below w.heap.size w w' := by
  have e1 : 0 ≤ r := by omega
  have e3 : ¬ r < 128 := by omega
  have e2 : (r == 65533) = false := by rw [beq_eq_false_iff_ne]; omega
  have HV := hide (validRuneW r w)
  rw [runeW_yes hv] at HV
  have hi := hs.hi
  have i4 : (s.size : Int) ≤ 100 := by omega
  obtain ⟨s2, s4, hl, hbe⟩ := enc_lastW (r := r) (by omega)
  obtain ⟨n, hn⟩ : ∃ n : Nat, n = (Utf8.encode r).size := ⟨_, rfl⟩
  have j1 : (2 : Int) ≤ (n : Int) := by omega
  have j2 : (n : Int) ≤ 4 := by omega
  by_cases sh : s.size ≤ n - 1
  · obtain ⟨z, hz⟩ : ∃ z : Int, z = (n : Int) := ⟨_, rfl⟩
    rw [← hz] at j1 j2
    have wz : IntKind.i64.wrap z = z := wrap_idW z (by omega) (by omega)
    have z1 : ¬ z - 1 < (s.size : Int) := by omega
    have hsz : ((Utf8.encode r).size : Int) = z := by rw [hz, hn]
    clear hv hs hbe hl s2 s4 hz sh hn
    go_enter Tryz.func242, Tryz.ntmps242
    go_wp2_with fail
    refine HV.out.mono ?_
    rintro e w1 ⟨rfl, rfl⟩
    clear HV
    go_wp2_with fail
    go_step3
    go_wp2_with fail
    go_loop [9, 10] (fun i _ => i = .int .i64 (z - 1)) (fun _ _ => 0)
    case atStart => rfl
    case round =>
      subst hrel
      go_wp2_with fail
      go_ret
      exact ⟨rfl, Below.refl _ _⟩
  have hlo : n ≤ s.size := by omega
  have K : ∃ (sb : Nat) (tb : UInt8), sb < 128 ∧ 128 ≤ tb.toNat ∧ (∀ w, (Instr.index 9 (.string s) (.int .i64 ((n : Int) - 1))).run Tryz.prog w = .ok (.int .u8 (sb : Int)) w) ∧ (∀ w, (Instr.index 9 (.string (Utf8.encode r)) (.int .i64 ((n : Int) - 1))).run Tryz.prog w = .ok (.int .u8 (tb.toNat : Int)) w) :=
    ⟨_, _, low_atW hs ((Utf8.encode r).size - 1) (by omega), hbe, fun w => index_anyW s _ _ (by omega) (by omega) w, fun w => index_anyW _ _ _ (by omega) hl w⟩
  obtain ⟨sb, tb, lk, hb, x1, x2⟩ := K
  have NE : ((sb : Int) != (tb.toNat : Int)) = true := by rw [bne_iff_ne]; omega
  have HI := hide (fun k w => indexByte_noneW (s.extract k s.size) tb w (not_highW hs hb _ _))
  have hsz : (Utf8.encode r).size = n := hn.symm
  have n2 := s2
  have n4 := s4
  clear hv hs hb lk n2 n4 s2 s4 hbe hl sh hn
  obtain ⟨z, hz⟩ : ∃ z : Int, z = (n : Int) := ⟨_, rfl⟩
  rw [← hz] at x1 x2 j1 j2
  have wz : IntKind.i64.wrap z = z := wrap_idW z (by omega) (by omega)
  have z0 : 0 ≤ z := by omega
  have z1 : z ≤ (s.size : Int) := by omega
  replace hsz : ((Utf8.encode r).size : Int) = z := by rw [hsz, hz]
  clear hz
  go_enter Tryz.func242, Tryz.ntmps242
  go_wp2_with fail
  refine HV.out.mono ?_
  rintro e w1 ⟨rfl, rfl⟩
  clear HV
  go_wp2_with fail
  go_step3
  go_wp2_with fail
  go_loop [9, 10] (fun i _ => i = .int .i64 (z - 1)) (fun _ _ => 0)
  case atStart => rfl
  case round =>
    subst hrel
    go_wp2_with fail
    go_step3
    go_wp2_with fail
    go_quiet (fail)
    have HB := hide (Go.below_drewN (Below.refl w1.heap.size w1) nq)
    generalize w1.drewN nq = wr at *
    go_wp2_with fail
    go_quiet ((go_at_call 235; exact Calls.quiet_of_same (HI.out _ _)))
    go_wp2_with fail
    rw [Exit.noGoto_ret]
    refine exit_in_blockW ?_
    refine (?_ : bodyPost Tryz.prog Tryz.f242 (fun e w' => e = .returned (.int .i64 (-1)) ∧ Below w1.heap.size w1 w') Exit.ret _ _)
    go_ret
    exact ⟨rfl, Go.below_drewN HB.out _⟩
set_option maxHeartbeats 4000000 in
set_option maxRecDepth 1000000 in
theorem indexRune_fffdW (s : ByteArray) (w : World) (hs : AscW s) :
    Calls Tryz.prog 242 #[.string s, .int .i32 65533] w fun e w' => e = .returned (.int .i64 (-1)) ∧ Below w.heap.size w w' := by
  have hi := hs.hi
  go_enter Tryz.func242, Tryz.ntmps242
  go_wp2_with fail
  go_loopw [] (fun w' => ∃ pos : Nat, w' = w.iter s pos ∧ pos ≤ s.size) (fun w' => s.size - w'.iterPos w.heap.size)
  case atStart => exact ⟨0, rfl, Nat.zero_le _⟩
  case round =>
    obtain ⟨pos, rfl, hps⟩ := hrel
    by_cases hp : pos < s.size
    · have hnx : ∀ ty, (Instr.next (.pointer (some ⟨w.heap.size, 0, none⟩)) true ty).run Tryz.prog (w.iter s pos) = _ := fun ty => run_next_any w s pos ty hp
      have lo := low_atW hs pos hp
      rw [decode_ascii s pos hp lo] at hnx
      have ne : (((s[pos]'hp).toNat : Int) == 65533) = false := by rw [beq_eq_false_iff_ne]; omega
      clear hs lo
      generalize (s[pos]'hp).toNat = x at *
      go_wp2_with fail
      go_roundw
      case rel => exact ⟨pos + 1, rfl, hp⟩
      case measure => simp; omega
    · have hnx : ∀ ty, (Instr.next (.pointer (some ⟨w.heap.size, 0, none⟩)) true ty).run Tryz.prog (w.iter s pos) = _ := fun ty => run_next_end w s pos ty hp
      go_wp2_with fail
      go_ret
      exact ⟨rfl, (Below.refl _ w).alloc (Nat.le_refl _) _⟩
def posW (w : World) (k : Nat) : Nat := match w.heap[k]? with | some (.stringIter _ p) => p | _ => 0
theorem asc_crlf : AscW ⟨#[13, 10]⟩ := ⟨by decide, by decide⟩
/-- A rune beyond ASCII isn't an end of a line. -/
theorem runeCr (r : Int) (w : World) (h0 : 128 ≤ r) :
    Calls Tryz.prog 242 #[.string ⟨#[13, 10]⟩, .int .i32 r] w fun e w' => e = .returned (.int .i64 (-1)) ∧ Below w.heap.size w w' := by
  by_cases h2 : r = 65533
  · subst h2; exact indexRune_fffdW _ w asc_crlf
  · by_cases h3 : (0 ≤ r ∧ r < 55296) ∨ (57343 < r ∧ r ≤ 1114111)
    · exact indexRune_highW _ r w asc_crlf (by omega) h3 h2
    · exact indexRune_oddW _ r w (by omega) h3
theorem get_hi {s : ByteArray} {k : Nat} (h : k < s.size) : (s.get! k).toNat = (s[k]'h).toNat := by
  have := get_at s k h
  rw [Nat.add_zero] at this
  rw [this]
/-- What a rune beyond ASCII is told by is none of ASCII. -/
theorem dec_skips {s : ByteArray} {pos : Nat} (h : pos < s.size) (ha : 128 ≤ (s[pos]'h).toNat) : ∀ k, k < (Utf8.decode s pos).2 → ∃ g : pos + k < s.size, 128 ≤ (s[pos + k]'g).toNat := by
  have hn : ¬ (s[pos]'h).toNat < 128 := by omega
  have z : ∃ g : pos + 0 < s.size, 128 ≤ (s[pos + 0]'g).toNat := ⟨h, ha⟩
  have C : ∀ k, (decide (pos + k < s.size) && (s.get! (pos + k)).toNat / 64 == 2) = true → ∃ g : pos + k < s.size, 128 ≤ (s[pos + k]'g).toNat := by
    intro k hk
    rw [Bool.and_eq_true, decide_eq_true_eq, beq_iff_eq] at hk
    refine ⟨hk.1, ?_⟩
    rw [get_hi hk.1] at hk
    omega
  have one : ∀ k, k < 1 → ∃ g : pos + k < s.size, 128 ≤ (s[pos + k]'g).toNat := fun k hk => by
    obtain rfl : k = 0 := by omega
    exact z
  unfold Utf8.decode
  simp only [get_at s pos h, hn, if_false]
  generalize hc1 : (decide (pos + 1 < s.size) && (s.get! (pos + 1)).toNat / 64 == 2) = q1
  generalize hc2 : (decide (pos + 2 < s.size) && (s.get! (pos + 2)).toNat / 64 == 2) = q2
  generalize hc3 : (decide (pos + 3 < s.size) && (s.get! (pos + 3)).toNat / 64 == 2) = q3
  split
  · rename_i hh
    rw [Bool.and_eq_true] at hh
    split
    · intro k hk
      have hk : k < 2 := hk
      rcases (by omega : k = 0 ∨ k = 1) with rfl | rfl
      · exact z
      · exact C 1 (hc1.trans hh.2)
    · exact one
  · split
    · rename_i _ hh
      simp only [Bool.and_eq_true] at hh
      split
      · intro k hk
        have hk : k < 3 := hk
        rcases (by omega : k = 0 ∨ k = 1 ∨ k = 2) with rfl | rfl | rfl
        · exact z
        · exact C 1 (hc1.trans hh.1.2)
        · exact C 2 (hc2.trans hh.2)
      · exact one
    · split
      · rename_i _ _ hh
        simp only [Bool.and_eq_true] at hh
        split
        · intro k hk
          have hk : k < 4 := hk
          rcases (by omega : k = 0 ∨ k = 1 ∨ k = 2 ∨ k = 3) with rfl | rfl | rfl | rfl
          · exact z
          · exact C 1 (hc1.trans hh.1.1.2)
          · exact C 2 (hc2.trans hh.1.2)
          · exact C 3 (hc3.trans hh.2)
        · exact one
      · exact one
theorem dec_room {s : ByteArray} {pos : Nat} (h : pos < s.size) (ha : 128 ≤ (s[pos]'h).toNat) : pos + (Utf8.decode s pos).2 ≤ s.size := by
  have w1 := Lib.decode_width_pos s pos h
  obtain ⟨g, _⟩ := dec_skips h ha ((Utf8.decode s pos).2 - 1) (by omega)
  omega
theorem brk_take (l : List UInt8) {k : Nat} (h : k < l.length) : brk (l.take (k + 1)) = (brk (l.take k) || (l[k] == 13 || l[k] == 10)) := by
  unfold brk
  rw [List.take_succ_eq_append_getElem h, List.any_append]; simp
theorem brk_hit {l : List UInt8} {k : Nat} (h : k < l.length) (hk : (l[k] == 13 || l[k] == 10) = true) : brk l = true := by
  unfold brk
  exact List.any_eq_true.2 ⟨l[k], List.getElem_mem h, hk⟩
theorem brk_skip (l : List UInt8) (p : Nat) (hp : brk (l.take p) = false) : ∀ n, (∀ k, k < n → ∃ g : p + k < l.length, 128 ≤ (l[p + k]'g).toNat) → brk (l.take (p + n)) = false
  | 0, _ => hp
  | n + 1, h => by
    have ih := brk_skip l p hp n (fun k hk => h k (by omega))
    obtain ⟨g, hg⟩ := h n (by omega)
    rw [← Nat.add_assoc, brk_take l g, ih, Bool.false_or]
    have a : (l[p + n] == 13) = false := by rw [beq_eq_false_iff_ne]; intro e; rw [e] at hg; revert hg; decide
    have b : (l[p + n] == 10) = false := by rw [beq_eq_false_iff_ne]; intro e; rw [e] at hg; revert hg; decide
    rw [a, b]; rfl
theorem ib_crlf (x : UInt8) : decide (0 ≤ Lib.indexByte [13, 10] x) = (x == 13 || x == 10) := by
  have e : decide (0 ≤ Lib.indexByte [13, 10] x) = decide (x ∈ ([13, 10] : List UInt8)) := by rw [decide_eq_decide]; exact indexByte_atW x [13, 10]
  rw [e, Bool.eq_iff_iff]
  simp
theorem at_bW {s : ByteArray} {k : Nat} (h : k < s.size) : (bL s)[k]'(by simpa using h) = s[k] := by
  show s.data.toList[k]'(by simpa using h) = s[k]
  simp; rfl
set_option maxHeartbeats 8000000 in
set_option maxRecDepth 1000000 in
theorem indexAnyW (s : ByteArray) (w : World) (hs : s.size ≤ 8) :
    Calls Tryz.prog 217 #[.string s, .string ⟨#[13, 10]⟩] w fun e w' => (∃ i : Int, e = .returned (.int .i64 i) ∧ decide (0 ≤ i) = brk (bL s)) ∧ Below w.heap.size w w' := by
  have h8z : decide ((8 : Int) < (s.size : Int)) = false := decide_eq_false (by omega)
  have LB : (bL s).length = s.size := by simp
  have HA := hide (fun W => Any.strings_shouldUseASCIISet lays226 (s.size : Int) W)
  rw [h8z] at HA
  have hemp : (⟨#[13, 10]⟩ : ByteArray).toList.isEmpty = false := by rw [Lib.toList_data]; rfl
  have hs2 := hide hs
  go_enter Tryz.func217, Tryz.ntmps217
  go_wp2_with fail
  refine (HA.out _).mono ?_
  rintro e w1 ⟨rfl, hu⟩
  obtain rfl : w = w1 := hu.symm
  clear HA
  go_wp2_with fail
  have IT0 := hide (World.iter_heap w s 0)
  have BL0 : Hid (Below w.heap.size w (w.iter s 0)) := (Below.refl _ w).alloc (Nat.le_refl _) _
  generalize w.iter s 0 = wi at *
  go_loopw [] (fun wr => ∃ pos : Nat, wr.heap[w.heap.size]? = some (.stringIter s pos) ∧ Hid (Below w.heap.size w wr) ∧ pos ≤ s.size ∧ Hid (brk ((bL s).take pos) = false)) (fun wr => s.size - posW wr w.heap.size)
  case atStart => exact ⟨0, IT0.out, BL0, Nat.zero_le _, rfl⟩
  case round =>
    rename World => wr
    obtain ⟨pos, hit, BW, hps, HB⟩ := hrel
    clear IT0 BL0
    have pos1 : posW wr w.heap.size = pos := by unfold posW; rw [hit]
    by_cases hp : pos < s.size
    · have hnx : ∀ ty, (Instr.next (.pointer (some ⟨w.heap.size, 0, none⟩)) true ty).run Tryz.prog wr = _ := fun ty => Lib.run_next_any_at wr w.heap.size s pos ty hit hp
      have IT := hide (Lib.iterAt_heap wr w.heap.size s pos (pos + (Utf8.decode s pos).2) hit)
      have BL := hide (Lib.below_iterAt BW.out (Nat.le_refl _) s (pos + (Utf8.decode s pos).2))
      have hl : pos < (bL s).length := by rw [LB]; exact hp
      clear hit
      by_cases lo : (s[pos]'hp).toNat < 128
      · rw [decode_ascii s pos hp lo] at hnx IT BL
        have TK := hide (brk_take (bL s) hl)
        have HT := hide (fun t => brk_hit (l := bL s) hl t)
        have EI := hide (ib_crlf (s[pos]'hp))
        rw [at_bW hp, HB.out, Bool.false_or] at TK
        rw [at_bW hp] at HT
        have HC := hide (fun W => Any.strings_IndexRune_ascii lays152 ⟨#[13, 10]⟩ ((s[pos]'hp).toNat : Int) W (by omega) (by omega))
        have hback : (((s[pos]'hp).toNat : Int)).toNat.toUInt8 = s[pos]'hp := by simp
        rw [hback, show (⟨#[13, 10]⟩ : ByteArray).data.toList = [13, 10] from rfl] at HC
        clear hback
        cases q : ((s[pos]'hp) == 13 || (s[pos]'hp) == 10) with
        | true =>
          rw [q] at EI
          have ge := of_decide_eq_true EI.out
          have RES := hide (HT.out q)
          clear TK HT EI q LB hl lo
          generalize Lib.indexByte [13, 10] (s[pos]'hp) = ib at *
          generalize (s[pos]'hp).toNat = x at *
          dsimp only at *
          generalize wr.iterAt w.heap.size s (pos + 1) = w3 at *
          go_wp2_with fail
          refine (HC.out _).mono ?_
          rintro e w2 ⟨rfl, hu⟩
          obtain rfl := hu.symm
          go_wp2_with fail
          go_ret
          exact ⟨⟨_, rfl, by rw [RES.out]; exact decide_eq_true (by omega)⟩, BL.out⟩
        | false =>
          rw [q] at EI TK
          have ge := of_decide_eq_false EI.out
          clear HT EI q LB hl lo
          generalize Lib.indexByte [13, 10] (s[pos]'hp) = ib at *
          generalize (s[pos]'hp).toNat = x at *
          dsimp only at *
          generalize wr.iterAt w.heap.size s (pos + 1) = w3 at *
          go_wp2_with fail
          refine (HC.out _).mono ?_
          rintro e w2 ⟨rfl, hu⟩
          obtain rfl := hu.symm
          go_wp2_with fail
          go_roundw
          case rel => exact ⟨pos + 1, IT.out, BL, hp, TK⟩
          case measure => rw [pos1]; have : posW w3 w.heap.size = pos + 1 := (by unfold posW; rw [IT.out]); omega
      · have hi128 : 128 ≤ (s[pos]'hp).toNat := by omega
        obtain ⟨d1, d2⟩ := decode_high s pos hp hi128
        have rm := dec_room hp hi128
        have TK := hide (brk_skip (bL s) pos HB.out (Utf8.decode s pos).2 (fun k hk => by
          obtain ⟨g, h⟩ := dec_skips hp hi128 k hk
          exact ⟨by rw [LB]; exact g, by rw [at_bW g]; exact h⟩))
        have HC := hide (fun W => runeCr ((Utf8.decode s pos).1 : Int) W (by omega))
        clear HB lo hi128 LB hl
        generalize (Utf8.decode s pos).2 = wd at *
        generalize (Utf8.decode s pos).1 = ch at *
        generalize wr.iterAt w.heap.size s (pos + wd) = w3 at *
        go_wp2_with fail
        refine (HC.out _).mono ?_
        rintro e w2 ⟨rfl, b2⟩
        have IT2 : w2.heap[w.heap.size]? = some (.stringIter s (pos + wd)) := (b2.block _ (Array.getElem?_eq_some_iff.1 IT.out).1).trans IT.out
        have IT3 := hide IT2
        have BL2 := hide (chain BL.out b2)
        clear IT2 b2 IT BL
        go_wp2_with fail
        go_roundw
        case rel => exact ⟨pos + wd, IT3.out, BL2, rm, TK⟩
        case measure => rw [pos1]; have : posW w2 w.heap.size = pos + wd := (by unfold posW; rw [IT3.out]); omega
    · have hnx : ∀ ty, (Instr.next (.pointer (some ⟨w.heap.size, 0, none⟩)) true ty).run Tryz.prog wr = _ := fun ty => Lib.run_next_end_at wr w.heap.size s pos ty hit hp
      have RES : Hid (brk (bL s) = false) := by
        show _ = _
        rw [← HB.out, List.take_of_length_le (by rw [LB]; omega)]
      clear HB LB hit pos1
      go_wp2_with fail
      go_ret
      exact ⟨⟨_, rfl, by rw [RES.out]; rfl⟩, BW.out⟩
theorem inf256 : (Tryz.prog.info? (acren.t 116)).map (fun i => (i.zero, i.size)) = some (some (.agg (Array.replicate 256 (.bool false))), 256) := by kernel_rfl
set_option maxHeartbeats 8000000 in
theorem containsAnyW (s : ByteArray) (w : World) (hs : s.size ≤ 1073741824) :
    Calls Tryz.prog 169 #[.string s, .string ⟨#[13, 10]⟩] w fun e w' => e = .returned (.bool (brk (bL s))) ∧ Below w.heap.size w w' := by
  have HC : Hid (Calls Tryz.prog 217 #[.string s, .string ⟨#[13, 10]⟩] w fun e w' => (∃ i : Int, e = .returned (.int .i64 i) ∧ decide (0 ≤ i) = brk (bL s)) ∧ Below w.heap.size w w') := by
    by_cases h8 : s.size ≤ 8
    · exact indexAnyW s w h8
    · refine (Any.strings_IndexAny_long lays153 (zero_of_info inf256).1 (zero_of_info inf256).2 s ⟨#[13, 10]⟩ w (by decide) (by omega) (by omega) (by decide) (fun j b hj => ?_)).mono ?_
      · exact asc_crlf.low b (List.mem_of_getElem? hj)
      · rintro e w' ⟨rfl, rfl⟩
        refine ⟨⟨_, rfl, any_brk _⟩, ((Below.refl _ _).alloc (Nat.le_refl _) _).alloc (by simp) _⟩
  go_enter Tryz.func169, Tryz.ntmps169
  go_wp2_with fail
  refine HC.out.mono ?_
  rintro e w1 ⟨⟨i, rfl, hi⟩, b1⟩
  have EI := hide hi
  have B1 := hide b1
  clear hi b1 HC
  go_wp2_with fail
  go_ret
  exact ⟨ret_bool EI.out, B1.out⟩
end Go.Proofs.YtnojgejcmaajmaaGreatDoor

namespace Go.Proofs.YtnojgejcmaajmaaGreatDoor
open Go.RowKit
set_option maxRecDepth 100000
set_option maxHeartbeats 8000000 in
theorem breaks_any (s : ByteArray) (w : World) (hs : s.size ≤ 1073741824) :
    Calls Tryz.prog 106 #[.string s] w fun e w' => e = .returned (.bool (brk (bL s))) ∧ Below w.heap.size w w' := by
  have HC := hide (containsAnyW s w hs)
  generalize brk (bL s) = R at *
  go_enter Tryz.func106, Tryz.ntmps106
  go_wp2_with fail
  refine HC.out.mono ?_
  rintro e w1 ⟨rfl, b1⟩
  go_wp2_with fail
  go_ret
  exact ⟨rfl, b1⟩
end Go.Proofs.YtnojgejcmaajmaaGreatDoor

namespace Go.Proofs.YtnojgejcmaajmaaGreatDoor
open Go.Shelf Go.RowKit
theorem cutW_any (c : UInt8) (l : List UInt8) (w : World) (hs : l.length < 4294967281) (hm : SomeMax w) :
    Calls Tryz.prog 44 #[.string (txt l), .string ⟨#[c]⟩] w fun e w' => e = .returned (.tuple #[.string (txt (hdW c l)), .string (txt (tlW c l)), .bool (hasB l c)]) ∧ Below w.heap.size w w' := by
  obtain ⟨m, hm⟩ := hm
  have := Any.strings_Cut lays145 (txt l) ⟨#[c]⟩ m w hs hm
  have e1 : Lib.cut (txt l).data.toList (⟨#[c]⟩ : ByteArray).data.toList = (hdW c l, tlW c l, hasB l c) := cutW_is c l
  rw [e1] at this
  refine this.mono ?_
  rintro e w' ⟨rfl, n, rfl⟩
  exact ⟨rfl, ⟨rfl, rfl, rfl, Nat.le_refl _, fun _ _ => rfl⟩⟩
end Go.Proofs.YtnojgejcmaajmaaGreatDoor

namespace Go.Proofs.YtnojgejcmaajmaaGreatDoor
open Go.RowKit
set_option maxRecDepth 100000
def sizeV : Value → Nat
  | .string s => s.size
  | _ => 0
theorem txt_noneU (l : List UInt8) : (txt l).toList = [] ↔ l = [] := by rw [ByteArray.toList_eq]; exact Iff.rfl
theorem txt_someU {l : List UInt8} (h : l ≠ []) : (txt l).toList.isEmpty = false := by
  cases g : (txt l).toList.isEmpty with
  | false => rfl
  | true => exact absurd ((txt_noneU l).1 (List.isEmpty_iff.1 g)) h
theorem unform_txtU (p : List UInt8) (w : World) (hs : p.length ≤ 1073741824) (hT : UrTabs w) :
    Calls Tryz.prog 45 #[.string (txt p)] w fun r w' => r = .returned (.string (txt (unf p))) ∧ Below w.heap.size w w' := unform_any (txt p) w hs hT.2.1 hT.2.2
set_option maxHeartbeats 8000000 in
theorem urDecodeO_any (s : ByteArray) (w : World) (hs : s.size ≤ 16777216) (hT : UrTabs w) :
    Calls Tryz.prog 12 #[.string s] w fun e w' => ∃ v', e = .returned v' ∧ OwnR w.heap.size w' v' (decU s.data.toList) ∧ Below w.heap.size w w' := by
  obtain ⟨l, rfl⟩ : ∃ l, s = txt l := ⟨s.data.toList, rfl⟩
  have hs : l.length ≤ 16777216 := hs
  show Calls _ _ _ _ fun e w' => ∃ v', e = .returned v' ∧ OwnR w.heap.size w' v' (decU l) ∧ Below w.heap.size w w'
  have TT := hide hT
  clear hT
  go_enter Tryz.func12, Tryz.ntmps12
  go_wp2_with fail
  go_loopw [0, 3] (fun sv ov wr => ∃ (r : List UInt8) (L : List En) (q : Option Addr) (cp : Nat), sv = .string (txt r) ∧ ov = .slice q L.length cp ∧ L.length + r.length ≤ 16777216 ∧ Hid (L ++ decU r = decU l) ∧ Hid (OwnR w.heap.size wr (.slice q L.length cp) L) ∧ Hid (Below w.heap.size w wr)) (fun sv _ _ => sizeV sv)
  case atStart => exact ⟨l, [], none, 0, rfl, rfl, by simpa using hs, rfl, OwnR.nil _ _, Below.refl _ _⟩
  case round =>
    rename World => wr
    obtain ⟨r, L, q, cp, rfl, rfl, hn, HE, OW, BW⟩ := hrel
    by_cases z : r = []
    · subst z
      have n1 := (txt_noneU []).2 rfl
      have E2 : Hid (L = decU l) := by
        have := HE.out
        rw [show decU [] = [] from rfl, List.append_nil] at this
        exact this
      clear HE TT
      go_wp2_with fail
      go_ret
      exact ⟨_, rfl, by rw [← E2.out]; exact OW.out, BW.out⟩
    · have n1 : ¬ (txt r).toList = [] := fun h => z ((txt_noneU r).1 h)
      have n2 := txt_someU z
      have HC := hide (cutW_any 38 r wr (by omega) (TT.out.2.2.below BW.out))
      have DC := hide (decU_cut r)
      have LT := tlW_len 38 r
      have LH := hdW_len 38 r
      have r1 : 1 ≤ r.length := by
        cases r with
        | nil => exact absurd rfl z
        | cons => simp
      have MS : sizeV (.string (txt r)) = r.length := rfl
      generalize hdW 38 r = hd at *
      generalize tlW 38 r = tl at *
      generalize hasB r 38 = hb at *
      go_wp2_with fail
      refine HC.out.mono ?_
      rintro e w1 ⟨rfl, b1⟩
      have BW1 := hide (chain BW.out b1)
      have OW1 := hide (OW.out.below b1)
      clear b1 HC BW OW n1 n2
      by_cases y : hd = []
      · subst y
        have n1 := (txt_noneU []).2 rfl
        have E2 : Hid (L ++ decU tl = decU l) := by
          have := HE.out
          rw [DC.out, show oneU [] = [] from rfl, List.nil_append] at this
          exact this
        clear HE DC TT
        go_wp2_with fail
        go_roundw
        case rel => exact ⟨tl, L, q, cp, rfl, rfl, by omega, E2, OW1, BW1⟩
        case measure => show tl.length < r.length; omega
      · have n1 : ¬ (txt hd).toList = [] := fun h => y ((txt_noneU hd).1 h)
        have n2 := txt_someU y
        have HC2 := hide (fun W (hb : Below w.heap.size w W) => cutW_any 61 hd W (by omega) (TT.out.2.2.below hb))
        have DE := hide (decE_cut hd)
        have L1 := hdW_len 61 hd
        have L2 := tlW_len 61 hd
        have E2 : Hid ((L ++ [decE hd]) ++ decU tl = decU l) := by
          have := HE.out
          rw [DC.out, oneU_some y, ← List.append_assoc] at this
          exact this
        have HU := hide (fun W (hb : Below w.heap.size w W) => unform_txtU (hdW 61 hd) W (by omega) (TT.out.below hb))
        have HV := hide (fun W (hb : Below w.heap.size w W) => unform_txtU (tlW 61 hd) W (by omega) (TT.out.below hb))
        clear HE DC
        generalize decE hd = de at *
        generalize hdW 61 hd = a0 at *
        generalize tlW 61 hd = a1 at *
        generalize hasB hd 61 = hb2 at *
        generalize txt (unf a0) = u0 at *
        generalize txt (unf a1) = u1 at *
        go_wp2_with fail
        refine (HC2.out _ BW1.out).mono ?_
        rintro e w2 ⟨rfl, b2⟩
        have BW2 := hide (chain BW1.out b2)
        have OW2 := hide (OW1.out.below b2)
        clear b2 HC2 BW1 OW1 n1 n2
        go_wp2_with fail
        refine (HU.out _ BW2.out).mono ?_
        rintro e w3 ⟨rfl, b3⟩
        have BW3 := hide (chain BW2.out b3)
        have OW3 := hide (OW2.out.below b3)
        clear b3 HU BW2 OW2
        go_wp2_with fail
        refine (HV.out _ BW3.out).mono ?_
        rintro e w4 ⟨rfl, b4⟩
        have BW4 := hide (chain BW3.out b4)
        have OW4 := hide (OW3.out.below b4)
        clear b4 HV BW3 OW3
        have F1 := hide (files_one w4 ⟨u0, u1, false, ⟨#[]⟩, ⟨#[]⟩⟩)
        have AL : Hid (Below w4.heap.size w4 (w4.alloc (.cells #[.string u0, .string u1, .bool false, .string ⟨#[]⟩, .string ⟨#[]⟩] 76))) := (Below.refl _ w4).alloc (Nat.le_refl _) _
        have B5 := hide (chain BW4.out AL.out)
        have O5 := hide (OW4.out.below AL.out)
        have SZ := hide (Nat.le_trans BW4.out.size AL.out.size)
        clear AL BW4 OW4
        go_wp2_with (at_builtin; refine wpList_append_en rfl _ _ rfl w.heap.size _ L rfl O5.out _ [⟨u0, u1, false, ⟨#[]⟩, ⟨#[]⟩⟩] rfl F1.out (by show (L.length + 1) * 72 ≤ _; omega) SZ.out ?_; intro q8 c8 w8 o8 b8)
        have O8 : Hid (OwnR w.heap.size w8 (.slice q8 (L ++ [de]).length c8) (L ++ [de])) := by
          show OwnR _ _ _ _
          rw [DE.out, List.length_append]
          exact o8
        have B8 := hide (B5.out.trans b8)
        have LN : Hid (L.length + 1 = (L ++ [de]).length) := by show _ = _; simp
        clear o8 b8 F1 B5 O5 SZ DE
        go_roundw
        case rel => exact ⟨tl, L ++ [de], q8, c8, rfl, by rw [← LN.out], by rw [← LN.out]; omega, E2, O8, B8⟩
        case measure => show tl.length < r.length; omega
theorem urDecode_any (s : ByteArray) (w : World) (hs : s.size ≤ 16777216) (hT : UrTabs w) :
    Calls Tryz.prog 12 #[.string s] w fun e w' => ∃ v', e = .returned v' ∧ FilesV w' v' (decU s.data.toList) ∧ Below w.heap.size w w' := by
  refine (urDecodeO_any s w hs hT).mono ?_
  rintro e w' ⟨v', rfl, h1, h2⟩
  exact ⟨v', rfl, h1.files, h2⟩
end Go.Proofs.YtnojgejcmaajmaaGreatDoor

namespace Go.Proofs.YtnojgejcmaajmaaGreatDoor
open Go.RowKit
set_option maxRecDepth 100000
theorem quo_cut : ∀ l : List UInt8, quoL l = match cutL [34] l with | none => none | some (n, r) => if brk n = true then none else some (n, r)
  | [] => rfl
  | c :: l => by
    have ih := quo_cut l
    show (if c = 10 ∨ c = 13 then none else if c = 34 then some ([], l) else (quoL l).map fun p => (c :: p.1, p.2)) = _
    by_cases h1 : c = 10 ∨ c = 13
    · have ne : [34].isPrefixOf (c :: l) = false := by
        have : ((34 : UInt8) == c) = false := by rw [beq_eq_false_iff_ne]; rintro rfl; revert h1; decide
        show ((34 : UInt8) == c && _) = false
        rw [this]; rfl
      rw [if_pos h1, cut_miss ne]
      cases cutL [34] l with
      | none => rfl
      | some pr =>
        have : brk (c :: pr.1) = true := by
          unfold brk
          rw [List.any_cons]
          rcases h1 with rfl | rfl <;> simp
        show none = if brk (c :: pr.1) = true then none else some (c :: pr.1, pr.2)
        rw [if_pos this]
    · rw [if_neg h1]
      by_cases h2 : c = 34
      · subst h2
        rw [if_pos rfl, cut_hit (by simp)]
        rfl
      · have ne : [34].isPrefixOf (c :: l) = false := by
          have : ((34 : UInt8) == c) = false := by rw [beq_eq_false_iff_ne]; exact fun t => h2 t.symm
          show ((34 : UInt8) == c && _) = false
          rw [this]; rfl
        rw [if_neg h2, cut_miss ne, ih]
        cases cutL [34] l with
        | none => rfl
        | some pr =>
          have : brk (c :: pr.1) = brk pr.1 := by
            unfold brk
            rw [List.any_cons]
            have a : (c == 13) = false := by rw [beq_eq_false_iff_ne]; exact fun t => h1 (.inr t)
            have b : (c == 10) = false := by rw [beq_eq_false_iff_ne]; exact fun t => h1 (.inl t)
            rw [a, b]; rfl
          show (if brk pr.1 = true then none else some (pr.1, pr.2)).map (fun p : List UInt8 × List UInt8 => (c :: p.1, p.2)) = if brk (c :: pr.1) = true then none else some (c :: pr.1, pr.2)
          rw [this]
          cases brk pr.1 <;> rfl
def quoP (a l : List UInt8) : Option (List UInt8 × List UInt8) := if a.isPrefixOf l = true then quoL (l.drop a.length) else none
def quoV : Option (List UInt8 × List UInt8) → Value
  | none => .tuple #[.string ⟨#[]⟩, .string ⟨#[]⟩, .bool false]
  | some (n, r) => .tuple #[.string (txt (unL n)), .string (txt r), .bool true]
theorem quoP_len {a l n r : List UInt8} (h : quoP a l = some (n, r)) : n.length ≤ l.length ∧ r.length ≤ l.length := by
  unfold quoP at h
  split at h
  · rw [quo_cut] at h
    cases c : cutL [34] (l.drop a.length) with
    | none => rw [c] at h; cases h
    | some pr =>
      obtain ⟨n', r'⟩ := pr
      rw [c] at h
      have h : (if brk n' = true then none else some (n', r')) = some (n, r) := h
      split at h
      · cases h
      · cases h
        have := congrArg List.length (cut_some (by simp) c).1
        rw [List.length_drop] at this
        simp only [List.length_append, List.length_cons, List.length_nil] at this
        omega
  · cases h
set_option maxHeartbeats 8000000 in
theorem quoted_any (a l : List UInt8) (w : World) (hs : l.length ≤ 1073741824) (hT : PtTabs w) :
    Calls Tryz.prog 105 #[.string (txt l), .string (txt a)] w fun e w' => e = .returned (quoV (quoP a l)) ∧ Below w.heap.size w w' := by
  have HP := hide (fun W => cutPreP_any l a W)
  have HT := hide hT
  cases pr : a.isPrefixOf l with
  | false =>
    have E : Hid (quoV (quoP a l) = .tuple #[.string ⟨#[]⟩, .string ⟨#[]⟩, .bool false]) := by
      show _ = _
      unfold quoP
      rw [pr]; rfl
    have e1 : (if a.isPrefixOf l = true then l.drop a.length else l) = l := by rw [pr]; rfl
    rw [e1, pr] at HP
    have HC := hide (fun W (h : Below w.heap.size w W) => cut_anyT [34] l W hs (by simp) (hT.below h).mx)
    clear pr e1 hT HT
    generalize cutT [34] l = ct at *
    obtain ⟨t1, t2, t3⟩ := ct
    rw [E.out]
    clear E
    go_enter Tryz.func105, Tryz.ntmps105
    go_wp2_with fail
    refine (HP.out _).mono ?_
    rintro e w1 ⟨rfl, hu⟩
    obtain rfl := hu.symm
    go_wp2_with fail
    refine (HC.out _ (Below.refl _ _)).mono ?_
    rintro e w2 ⟨rfl, b2⟩
    go_wp2_with fail
    go_ret3
    exact ⟨rfl, b2⟩
  | true =>
    have e1 : (if a.isPrefixOf l = true then l.drop a.length else l) = l.drop a.length := by rw [pr]; rfl
    rw [e1, pr] at HP
    have E0 : quoP a l = quoL (l.drop a.length) := by unfold quoP; rw [pr]; rfl
    have dl : (l.drop a.length).length ≤ 1073741824 := by rw [List.length_drop]; omega
    rw [E0, quo_cut]
    clear E0 e1 pr hs
    generalize l.drop a.length = d at *
    have HC := hide (fun W (h : Below w.heap.size w W) => cut_anyT [34] d W dl (by simp) (hT.below h).mx)
    have EC : cutT [34] d = match cutL [34] d with | none => (d, [], false) | some (p, r) => (p, r, true) := rfl
    have LC := cutT_len [34] d
    rw [EC] at HC LC
    clear EC
    cases cq : cutL [34] d with
    | none =>
      rw [cq] at HC
      clear cq LC hT HT
      show Calls _ _ _ _ fun e w' => e = .returned (.tuple #[.string ⟨#[]⟩, .string ⟨#[]⟩, .bool false]) ∧ Below w.heap.size w w'
      go_enter Tryz.func105, Tryz.ntmps105
      go_wp2_with fail
      refine (HP.out _).mono ?_
      rintro e w1 ⟨rfl, hu⟩
      obtain rfl := hu.symm
      go_wp2_with fail
      refine (HC.out _ (Below.refl _ _)).mono ?_
      rintro e w2 ⟨rfl, b2⟩
      go_wp2_with fail
      go_ret3
      exact ⟨rfl, b2⟩
    | some nr =>
      obtain ⟨n, r⟩ := nr
      rw [cq] at HC LC
      clear cq
      have ln : n.length ≤ 1073741824 := by have : n.length ≤ d.length := LC.1; omega
      have HB := hide (fun W => breaks_any (txt n) W ln)
      have HU := hide (fun W (h : Below w.heap.size w W) => unquote_any (txt n) W ln (hT.below h))
      have EB : Hid (bL (txt n) = n) := rfl
      rw [EB.out] at HB HU
      clear EB LC hT HT ln dl
      cases bk : brk n with
      | true =>
        rw [bk] at HB
        have E : Hid ((match some (n, r) with | none => none | some (n, r) => if brk n = true then none else some (n, r)) = none) := by
          show (if brk n = true then none else some (n, r)) = none
          rw [bk]; rfl
        rw [E.out]
        clear E bk HU
        show Calls _ _ _ _ fun e w' => e = .returned (.tuple #[.string ⟨#[]⟩, .string ⟨#[]⟩, .bool false]) ∧ Below w.heap.size w w'
        go_enter Tryz.func105, Tryz.ntmps105
        go_wp2_with fail
        refine (HP.out _).mono ?_
        rintro e w1 ⟨rfl, hu⟩
        obtain rfl := hu.symm
        go_wp2_with fail
        refine (HC.out _ (Below.refl _ _)).mono ?_
        rintro e w2 ⟨rfl, b2⟩
        go_wp2_with fail
        refine (HB.out _).mono ?_
        rintro e w3 ⟨rfl, b3⟩
        have B3 := hide (chain b2 b3)
        clear b2 b3
        go_wp2_with fail
        go_ret3
        exact ⟨rfl, B3.out⟩
      | false =>
        rw [bk] at HB
        have E : Hid ((match some (n, r) with | none => none | some (n, r) => if brk n = true then none else some (n, r)) = some (n, r)) := by
          show (if brk n = true then none else some (n, r)) = some (n, r)
          rw [bk]; rfl
        rw [E.out]
        clear E bk
        show Calls _ _ _ _ fun e w' => e = .returned (.tuple #[.string (txt (unL n)), .string (txt r), .bool true]) ∧ Below w.heap.size w w'
        generalize txt (unL n) = un at *
        go_enter Tryz.func105, Tryz.ntmps105
        go_wp2_with fail
        refine (HP.out _).mono ?_
        rintro e w1 ⟨rfl, hu⟩
        obtain rfl := hu.symm
        go_wp2_with fail
        refine (HC.out _ (Below.refl _ _)).mono ?_
        rintro e w2 ⟨rfl, b2⟩
        go_wp2_with fail
        refine (HB.out _).mono ?_
        rintro e w3 ⟨rfl, b3⟩
        have B3 := hide (chain b2 b3)
        clear b2 b3
        go_wp2_with fail
        refine (HU.out _ B3.out).mono ?_
        rintro e w4 ⟨rfl, b4⟩
        have B4 := hide (chain B3.out b4)
        clear b4 B3
        go_wp2_with fail
        go_ret3
        exact ⟨rfl, B4.out⟩

end Go.Proofs.YtnojgejcmaajmaaGreatDoor
