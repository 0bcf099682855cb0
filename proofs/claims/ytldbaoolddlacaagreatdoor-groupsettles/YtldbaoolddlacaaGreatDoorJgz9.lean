/- Facts of no program. Small letters of texts, as lists of bytes. What kind a node is, as a function of its name and its attributes. A select's options and which of them are selected, as functions of documents and states. -/
import Derived.Test.YtldbaoolddlacaaGreatDoorJgz4
import Derived.Test.YtldbaoolddlacaaGreatDoorJgz7
import Derived.Test.YtldbaoolddlacaaGreatDoorJgz8
import Derived.Test.YtldbaoolddlacaaGreatDoorJgz11
import Derived.Laws.BytesArg
import Derived.Lib.ConvBytes
import Derived.Lib.AppendStr
import Derived.Lib.SlTrimSet

namespace Go.Proofs.YtldbaoolddlacaaGreatDoor
open Go.RowKit
/-- The types of bytes, of slices of bytes and of texts. -/
structure ByteTypes (P : Program) (t e st : TypeId) : Prop where
  sl : P.underlying t = some (.slice e)
  el : P.underlying e = some (.int .u8)
  str : P.underlying st = some .string
  info : (P.info? e).map (fun i => (i.zero, i.size, i.bytes)) = some (some (.int .u8 0), 1, 1)
/-- A byte, as a cell holds it. -/
def cellB (c : UInt8) : Value := .int .u8 (c.toNat : Int)
def txt (l : List UInt8) : ByteArray := ⟨l.toArray⟩
/-- The value v is a slice of the call's own (its block from 'base' on) that holds the bytes l. -/
def OwnsB (e : TypeId) (base : Nat) (w : World) (v : Value) (l : List UInt8) : Prop := w.ownsRow base e 1 v l.length (l.map cellB)
theorem OwnsB.nil (e : TypeId) (base : Nat) (w : World) : OwnsB e base w (.slice none 0 0) [] := World.ownsRow_nil w base e 1
theorem OwnsB.below {e : TypeId} {base : Nat} {w w' : World} {v : Value} {l : List UInt8} (h : OwnsB e base w v l) (hb : Below w.heap.size w w') : OwnsB e base w' v l := by
  obtain ⟨h1, h2⟩ := h
  refine ⟨h1, ?_⟩
  rcases h2 with h2 | ⟨g, cap, cur, hv, hg, hh, r⟩
  · exact Or.inl h2
  · refine Or.inr ⟨g, cap, cur, hv, hg, ?_, r⟩
    rw [hb.block g ?_]; exact hh
    rcases Nat.lt_or_ge g w.heap.size with h' | h'
    · exact h'
    · simp [Array.getElem?_eq_none h'] at hh
theorem OwnsB.mono {e : TypeId} {base base' : Nat} {w : World} {v : Value} {l : List UInt8} (h : OwnsB e base w v l) (hb : base' ≤ base) : OwnsB e base' w v l := by
  obtain ⟨h1, h2⟩ := h
  refine ⟨h1, ?_⟩
  rcases h2 with h2 | ⟨g, cap, cur, hv, hg, r⟩
  · exact Or.inl h2
  · exact Or.inr ⟨g, cap, cur, hv, by omega, r⟩
theorem strOfNums_bytes (l : List UInt8) : strOfNums (l.map fun c => (c.toNat : Int)) = txt l := by
  unfold strOfNums txt
  rw [List.map_map]
  have : ((fun n : Int => UInt8.ofNat n.toNat) ∘ fun c : UInt8 => (c.toNat : Int)) = id := by
    funext c; simp
  rw [this, List.map_id]
/-- 'string(b)' of such a slice. -/
theorem OwnsB.text {P : Program} {t e st : TypeId} (bt : ByteTypes P t e st) {base : Nat} {w : World} {v : Value} {l : List UInt8} (h : OwnsB e base w v l) :
    (convert t st v).run P w = .ok (.string (txt l)) w := by
  rcases h.2 with ⟨rfl, hn⟩ | ⟨g, cap, cur, rfl, hg, hh, r⟩
  · have : l = [] := List.eq_nil_of_length_eq_zero hn
    subst this
    exact run_convert_bytes_nil (P := P) w t e bt.sl bt.el 0 0 st bt.str
  · have hl : (l.map fun c => (c.toNat : Int)).length = l.length := by simp
    have := run_convert_bytes_arg (P := P) w t e bt.sl bt.el g 0 l.length cap _ hl (fun i hi => by
      rw [Nat.zero_add, World.ownsRow.cellAt h i (by omega)]
      simp [cellB, hi]) st bt.str
    rw [this, strOfNums_bytes]
theorem grown_below {e : TypeId} {base : Nat} {w w' : World} {v : Value} {n : Nat} {xs : List Value} (h : w.ownsRow base e 1 v n xs) (hg : w.grownBy w' v.ownBlock) (hB : base ≤ w.heap.size) : Below base w w' :=
  (Below.refl base w).grown hg hB fun k hk => (h.lt k hk).1
/-- A text, as a cell holds it. -/
def cellT (l : List UInt8) : Value := .string (txt l)
/-- The value v is a slice of the call's own (its block from 'base' on) that holds the texts ws. -/
def OwnsT (e : TypeId) (base : Nat) (w : World) (v : Value) (ws : List (List UInt8)) : Prop := w.ownsRow base e 1 v ws.length (ws.map cellT)
theorem OwnsT.nil (e : TypeId) (base : Nat) (w : World) : OwnsT e base w (.slice none 0 0) [] := World.ownsRow_nil w base e 1
theorem ownsRow_below {e : TypeId} {base n : Nat} {w w' : World} {v : Value} {xs : List Value} (h : w.ownsRow base e 1 v n xs) (hb : Below w.heap.size w w') : w'.ownsRow base e 1 v n xs := by
  obtain ⟨h1, h2⟩ := h
  refine ⟨h1, ?_⟩
  rcases h2 with h2 | ⟨g, cap, cur, hv, hg, hh, r⟩
  · exact Or.inl h2
  · refine Or.inr ⟨g, cap, cur, hv, hg, ?_, r⟩
    rw [hb.block g ?_]; exact hh
    rcases Nat.lt_or_ge g w.heap.size with h' | h'
    · exact h'
    · simp [Array.getElem?_eq_none h'] at hh
theorem OwnsT.below {e : TypeId} {base : Nat} {w w' : World} {v : Value} {ws : List (List UInt8)} (h : OwnsT e base w v ws) (hb : Below w.heap.size w w') : OwnsT e base w' v ws := ownsRow_below h hb
/-- The world behind '[]byte(s)'. -/
theorem bytes_below (w : World) (e : TypeId) (s : ByteArray) : Below w.heap.size w (Lib.bytesWorld w e s) :=
  ⟨rfl, rfl, rfl, by rw [Lib.bytesWorld_size]; omega, fun k hk => Lib.bytesWorld_at_old w e s k hk⟩
theorem bytes_free (w : World) (e : TypeId) (s : ByteArray) (j : Nat) (hj : j < s.size) : (Lib.bytesWorld w e s).frozen? ⟨w.heap.size, j, none⟩ = false := by
  have hs : j < (Lib.bytesCells w e s).size := by
    simp [Lib.bytesCells]; omega
  simp [World.frozen?, Lib.bytesWorld_at_new]
  omega
end Go.Proofs.YtldbaoolddlacaaGreatDoor

namespace Go.Proofs.YtldbaoolddlacaaGreatDoor
open Go.RowKit
/-- The small letter of a byte. -/
def lowB (c : UInt8) : UInt8 := if 65 ≤ c.toNat ∧ c.toNat ≤ 90 then c + 32 else c
def lowL (l : List UInt8) : List UInt8 := l.map lowB
def lowS (s : ByteArray) : ByteArray := txt (lowL s.data.toList)
def byteAt (s : ByteArray) (j : Nat) : UInt8 := s.data.toList.getD j 0
theorem byteAt_eq (s : ByteArray) (j : Nat) (h : j < s.size) : s[j] = byteAt s j := by
  unfold byteAt; simp [List.getD, h]; rfl
theorem byteAt_take (s : ByteArray) (k : Nat) (h : k < s.size) : s.data.toList.take (k + 1) = s.data.toList.take k ++ [byteAt s k] := by
  rw [List.take_succ_eq_append_getElem (by simpa using h), ← byteAt_eq s k h]; rfl
theorem lowB_yes (c : UInt8) (h1 : 65 ≤ c.toNat) (h2 : c.toNat ≤ 90) : (lowB c).toNat = c.toNat + 32 := by
  unfold lowB; rw [if_pos ⟨h1, h2⟩]; simp; omega
theorem lowB_no (c : UInt8) (h : ¬ (65 ≤ c.toNat ∧ c.toNat ≤ 90)) : lowB c = c := by
  unfold lowB; rw [if_neg h]
theorem lowL_length (l : List UInt8) : (lowL l).length = l.length := by simp [lowL]
theorem lowL_take (s : ByteArray) (k : Nat) (h : k < s.size) : lowL (s.data.toList.take (k + 1)) = lowL (s.data.toList.take k) ++ [lowB (byteAt s k)] := by
  rw [byteAt_take s k h]; simp [lowL]
end Go.Proofs.YtldbaoolddlacaaGreatDoor

namespace Go.Proofs.YtldbaoolddlacaaGreatDoor
open Go.RowKit
def tyS : ByteArray := ⟨#[116, 121, 112, 101]⟩
/-- The text that tells the type, in small letters. -/
def tyOf (ax : List (ByteArray × ByteArray)) : Option ByteArray := (findA ax tyS).map fun i => lowS (ax.getD i at0).2
def byT (o : Option ByteArray) (f l : Nat) (z : Int) : Int := match o with
  | none => z
  | some t => kInt (seekR t f l 30 0) z
def kOf (name : ByteArray) (o : Option ByteArray) : Int :=
  if name = ⟨#[105, 110, 112, 117, 116]⟩ then byT o 1 22 2 else if name = ⟨#[115, 101, 108, 101, 99, 116]⟩ then 23 else if name = ⟨#[116, 101, 120, 116, 97, 114, 101, 97]⟩ then 24 else if name = ⟨#[98, 117, 116, 116, 111, 110]⟩ then byT o 25 27 25 else
  match seekL name 8 0 with
  | none => 0
  | some i => 28 + (i : Int)
theorem seek_step (t : ByteArray) (f l k : Nat) (h : k < 30) : seekR t f l (30 - k) k = if (Nat.ble f k && (Nat.ble k l && decide (typeN k = t))) = true then some k else seekR t f l (30 - (k + 1)) (k + 1) := by
  rw [show 30 - k = (30 - (k + 1)) + 1 by omega]; rfl
theorem seekL_step (t : ByteArray) (k : Nat) (h : k < 8) : seekL t (8 - k) k = if lastN k = t then some k else seekL t (8 - (k + 1)) (k + 1) := by
  rw [show 8 - k = (8 - (k + 1)) + 1 by omega]; rfl
theorem btw_nat (k f l : Nat) : btwB (k : Int) (f : Int) (l : Int) = (Nat.ble f k && Nat.ble k l) := by
  unfold btwB
  rw [Bool.eq_iff_iff, decide_eq_true_eq, Bool.and_eq_true, Nat.ble_eq, Nat.ble_eq]
  omega
theorem seek_hit {t : ByteArray} {f l k : Nat} {A : Option Nat} (h : k < 30) (hs : seekR t f l (30 - k) k = A) (hb : btwB (k : Int) f l = true) (he : typeN k = t) : A = some k := by
  rw [btw_nat, Bool.and_eq_true] at hb
  rw [← hs, seek_step t f l k h, hb.1, hb.2, decide_eq_true he]; rfl
theorem seek_miss {t : ByteArray} {f l k : Nat} {A : Option Nat} (h : k < 30) (hs : seekR t f l (30 - k) k = A) (hb : btwB (k : Int) f l = false ∨ ¬ typeN k = t) : seekR t f l (30 - (k + 1)) (k + 1) = A := by
  rw [← hs, seek_step t f l k h, if_neg]
  rw [Bool.and_eq_true, Bool.and_eq_true, decide_eq_true_eq]
  rintro ⟨q1, q2, q3⟩
  rcases hb with r | r
  · rw [btw_nat, q1, q2] at r; cases r
  · exact r q3
theorem typeS_nat {k : Nat} (h : k < 30) : typeS (k : Int) = typeN k := by
  unfold typeS
  rw [if_pos (by omega), Int.toNat_natCast]
theorem seek_from (t : ByteArray) : seekR t 1 22 (30 - 1) 1 = seekR t 1 22 30 0 := rfl
theorem seek_to (t : ByteArray) : seekR t 1 22 (30 - 23) 23 = none := rfl
theorem seek_empty : seekR ⟨#[]⟩ 1 22 30 0 = none := by decide +kernel
theorem seek_button (t : ByteArray) : kInt (seekR t 25 27 30 0) 25 = if t = ⟨#[114, 101, 115, 101, 116]⟩ then 26 else if t = ⟨#[98, 117, 116, 116, 111, 110]⟩ then 27 else 25 := by
  have e : seekR t 25 27 30 0 = (if decide (typeN 25 = t) = true then some 25 else if decide (typeN 26 = t) = true then some 26 else if decide (typeN 27 = t) = true then some 27 else none) := rfl
  have d6 : typeN 26 = ⟨#[114, 101, 115, 101, 116]⟩ := rfl
  have d7 : typeN 27 = ⟨#[98, 117, 116, 116, 111, 110]⟩ := rfl
  have n1 : ¬ typeN 25 = typeN 26 := by decide +kernel
  have n2 : ¬ typeN 25 = typeN 27 := by decide +kernel
  have n3 : ¬ typeN 26 = typeN 27 := by decide +kernel
  rw [e, ← d6, ← d7]
  by_cases h5 : typeN 25 = t
  · rw [decide_eq_true h5, if_pos (show true = true from rfl), if_neg (show ¬ t = typeN 26 from fun q => n1 (h5.trans q)), if_neg (show ¬ t = typeN 27 from fun q => n2 (h5.trans q))]; rfl
  · rw [decide_eq_false h5, if_neg (show ¬ false = true by decide)]
    by_cases h6 : typeN 26 = t
    · rw [decide_eq_true h6, if_pos (show true = true from rfl), if_pos (show t = typeN 26 from h6.symm)]; rfl
    · rw [decide_eq_false h6, if_neg (show ¬ false = true by decide), if_neg (show ¬ t = typeN 26 from fun q => h6 q.symm)]
      by_cases h7 : typeN 27 = t
      · rw [decide_eq_true h7, if_pos (show true = true from rfl), if_pos (show t = typeN 27 from h7.symm)]; rfl
      · rw [decide_eq_false h7, if_neg (show ¬ false = true by decide), if_neg (show ¬ t = typeN 27 from fun q => h7 q.symm)]; rfl
theorem lit_dec (a : ByteArray) (l : List UInt8) : (a.toList == l) = decide (a = ⟨l.toArray⟩) := by
  by_cases h : a = ⟨l.toArray⟩
  · rw [decide_eq_true h, lit_yes h]
  · rw [decide_eq_false h, lit_no h]
end Go.Proofs.YtldbaoolddlacaaGreatDoor

namespace Go.Proofs.YtldbaoolddlacaaGreatDoor
open Go.RowKit
/-- A node's kind; is a node there, of a kind, in a right document? Has it an attribute? -/
def kN (n : Nd) : Int := kOf n.name (tyOf n.attrs)
def isK (l : List Nd) (id k : Int) : Bool := hasN l id && decide (kN (nd l id.toNat) = k)
def hasA (n : Nd) (s : ByteArray) : Bool := (findA n.attrs s).isSome
def nmI (l : List Nd) (i : Int) : ByteArray := (nd l i.toNat).name
/-- States: one of them; right with a document. -/
def st (C : List Ct) (i : Int) : Ct := C.getD i.toNat ct0
def rightD (l : List Nd) (C : List Ct) : Bool := rightB l && decide ((l.length : Int) = (C.length : Int))
/-- Those of a list are changed. -/
def updP (f : Int → Ct → Ct) (all : List Int) (C : List Ct) : List Ct := C.mapIdx fun i c => if (i : Int) ∈ all then f i c else c
def setC (C : List Ct) (i : Int) (c : Ct) : List Ct := C.set i.toNat c
theorem updC_len (f : Int → Ct → Ct) (all : List Int) (C : List Ct) : (updP f all C).length = C.length := by simp [updP]
theorem upd_at {f : Int → Ct → Ct} {all : List Int} {C : List Ct} {i : Nat} (h : i < C.length) : (updP f all C)[i]'(by rw [updC_len]; exact h) = if (i : Int) ∈ all then f i C[i] else C[i] := by simp [updP]
theorem upd_nil (f : Int → Ct → Ct) (C : List Ct) : updP f [] C = C := by
  apply List.ext_getElem (updC_len ..)
  intro i h1 h2
  rw [upd_at h2, if_neg (by simp)]
/-- One more of the list. -/
theorem upd_step {f : Int → Ct → Ct} {all : List Int} {C : List Ct} {k : Nat} (hk : k < all.length) (hn : all.Nodup) {m : Nat} (hm : all[k] = (m : Int)) (hl : m < C.length) :
    (updP f (all.take k) C).set m (f m (C[m])) = updP f (all.take (k + 1)) C ∧ (updP f (all.take k) C)[m]? = some C[m] := by
  have nk : (m : Int) ∉ all.take k := by
    intro q
    obtain ⟨j, hj, e⟩ := List.getElem_of_mem q
    have hj' : j < k := by have := hj; rw [List.length_take] at this; omega
    rw [List.getElem_take] at e
    exact (List.pairwise_iff_getElem.1 hn) j k (by omega) hk hj' (e.trans hm.symm)
  constructor
  · apply List.ext_getElem (by simp [updC_len])
    intro i h1 h2
    have hi : i < C.length := by rw [updC_len] at h2; exact h2
    rw [List.getElem_set, upd_at hi, upd_at hi, List.take_succ_eq_append_getElem hk, hm]
    by_cases e : m = i
    · subst e
      rw [if_pos rfl, if_pos (by simp)]
    · rw [if_neg e]
      have : (i : Int) ∈ all.take k ++ [(m : Int)] ↔ (i : Int) ∈ all.take k := by
        rw [List.mem_append, List.mem_singleton]
        constructor
        · rintro (q | q)
          · exact q
          · omega
        · exact .inl
      simp only [this]
  · rw [List.getElem?_eq_getElem (by rw [updC_len]; exact hl), upd_at hl, if_neg nk]
theorem st_upd {f : Int → Ct → Ct} {all : List Int} {C : List Ct} {i : Int} (h0 : 0 ≤ i) (h : i < C.length) : st (updP f all C) i = if i ∈ all then f i (st C i) else st C i := by
  have hi : i.toNat < C.length := by omega
  have e : ((i.toNat : Nat) : Int) = i := by omega
  unfold st
  rw [List.getD_eq_getElem?_getD, List.getElem?_eq_getElem (by rw [updC_len]; exact hi), Option.getD_some, upd_at hi, List.getD_eq_getElem?_getD, List.getElem?_eq_getElem hi, Option.getD_some, e]
theorem rightD_is {l : List Nd} {C : List Ct} (h : rightD l C = true) : Right l ∧ l.length = C.length := by
  unfold rightD at h
  rw [Bool.and_eq_true, decide_eq_true_eq] at h
  exact ⟨right_is.1 h.1, by omega⟩

end Go.Proofs.YtldbaoolddlacaaGreatDoor
