/- Facts of no program. Small letters of texts, as lists of bytes. What kind a node is, as a function of its name and its attributes. A select's options and which of them are selected, as functions of documents and states. The way down in a document. -/
import Derived.Test.YtnojgejcmaajmaaDoorJsd5
import Derived.Test.YtnojgejcmaajmaaDoorJsd6
import Derived.Test.YtnojgejcmaajmaaDoorJsd7
import Derived.Test.YtnojgejcmaajmaaDoorJsd8
import Derived.Laws.BytesArg
import Derived.Lib.ConvBytes
import Derived.Lib.AppendStr
import Derived.Lib.SlTrimSet

namespace Go.Proofs.YtnojgejcmaajmaaDoor
open Go.RowKit
/-- The types of bytes, of slices of bytes and of texts. -/
structure ByteTypes (P : Program) (t e st : TypeId) : Prop where
  sl : P.underlying t = some (.slice e)
  el : P.underlying e = some (.int .u8)
  str : P.underlying st = some .string
  info : (P.info? e).map (fun i => (i.zero, i.size, i.bytes)) = some (some (.int .u8 0), 1, 1)
/-- A byte, as a cell holds it. -/
def cellB (c : UInt8) : Value := .int .u8 (c.toNat : Int)
def txt (l : List UInt8) : ByteArray := ⟨l.toArray⟩
/-- The value v is a slice of the call's own (its block from 'base' on) that holds the bytes l. -/
def OwnsB (e : TypeId) (base : Nat) (w : World) (v : Value) (l : List UInt8) : Prop := w.ownsRow base e 1 v l.length (l.map cellB)
theorem OwnsB.nil (e : TypeId) (base : Nat) (w : World) : OwnsB e base w (.slice none 0 0) [] := World.ownsRow_nil w base e 1
theorem OwnsB.below {e : TypeId} {base : Nat} {w w' : World} {v : Value} {l : List UInt8} (h : OwnsB e base w v l) (hb : Below w.heap.size w w') : OwnsB e base w' v l := by
  obtain ⟨h1, h2⟩ := h
  refine ⟨h1, ?_⟩
  rcases h2 with h2 | ⟨g, cap, cur, hv, hg, hh, r⟩
  · exact Or.inl h2
  · refine Or.inr ⟨g, cap, cur, hv, hg, ?_, r⟩
    rw [hb.block g ?_]; exact hh
    rcases Nat.lt_or_ge g w.heap.size with h' | h'
    · exact h'
    · simp [Array.getElem?_eq_none h'] at hh
theorem OwnsB.mono {e : TypeId} {base base' : Nat} {w : World} {v : Value} {l : List UInt8} (h : OwnsB e base w v l) (hb : base' ≤ base) : OwnsB e base' w v l := by
  obtain ⟨h1, h2⟩ := h
  refine ⟨h1, ?_⟩
  rcases h2 with h2 | ⟨g, cap, cur, hv, hg, r⟩
  · exact Or.inl h2
  · exact Or.inr ⟨g, cap, cur, hv, by omega, r⟩
theorem strOfNums_bytes (l : List UInt8) : strOfNums (l.map fun c => (c.toNat : Int)) = txt l := by
  unfold strOfNums txt
  rw [List.map_map]
  have : ((fun n : Int => UInt8.ofNat n.toNat) ∘ fun c : UInt8 => (c.toNat : Int)) = id := by
    funext c; simp
  rw [this, List.map_id]
/-- 'string(b)' of such a slice. -/
theorem OwnsB.text {P : Program} {t e st : TypeId} (bt : ByteTypes P t e st) {base : Nat} {w : World} {v : Value} {l : List UInt8} (h : OwnsB e base w v l) :
    (convert t st v).run P w = .ok (.string (txt l)) w := by
  rcases h.2 with ⟨rfl, hn⟩ | ⟨g, cap, cur, rfl, hg, hh, r⟩
  · have : l = [] := List.eq_nil_of_length_eq_zero hn
    subst this
    exact run_convert_bytes_nil (P := P) w t e bt.sl bt.el 0 0 st bt.str
  · have hl : (l.map fun c => (c.toNat : Int)).length = l.length := by simp
    have := run_convert_bytes_arg (P := P) w t e bt.sl bt.el g 0 l.length cap _ hl (fun i hi => by
      rw [Nat.zero_add, World.ownsRow.cellAt h i (by omega)]
      simp [cellB, hi]) st bt.str
    rw [this, strOfNums_bytes]
theorem grown_below {e : TypeId} {base : Nat} {w w' : World} {v : Value} {n : Nat} {xs : List Value} (h : w.ownsRow base e 1 v n xs) (hg : w.grownBy w' v.ownBlock) (hB : base ≤ w.heap.size) : Below base w w' :=
  (Below.refl base w).grown hg hB fun k hk => (h.lt k hk).1
/-- A text, as a cell holds it. -/
def cellT (l : List UInt8) : Value := .string (txt l)
/-- The value v is a slice of the call's own (its block from 'base' on) that holds the texts ws. -/
def OwnsT (e : TypeId) (base : Nat) (w : World) (v : Value) (ws : List (List UInt8)) : Prop := w.ownsRow base e 1 v ws.length (ws.map cellT)
theorem OwnsT.nil (e : TypeId) (base : Nat) (w : World) : OwnsT e base w (.slice none 0 0) [] := World.ownsRow_nil w base e 1
theorem ownsRow_below {e : TypeId} {base n : Nat} {w w' : World} {v : Value} {xs : List Value} (h : w.ownsRow base e 1 v n xs) (hb : Below w.heap.size w w') : w'.ownsRow base e 1 v n xs := by
  obtain ⟨h1, h2⟩ := h
  refine ⟨h1, ?_⟩
  rcases h2 with h2 | ⟨g, cap, cur, hv, hg, hh, r⟩
  · exact Or.inl h2
  · refine Or.inr ⟨g, cap, cur, hv, hg, ?_, r⟩
    rw [hb.block g ?_]; exact hh
    rcases Nat.lt_or_ge g w.heap.size with h' | h'
    · exact h'
    · simp [Array.getElem?_eq_none h'] at hh
theorem OwnsT.below {e : TypeId} {base : Nat} {w w' : World} {v : Value} {ws : List (List UInt8)} (h : OwnsT e base w v ws) (hb : Below w.heap.size w w') : OwnsT e base w' v ws := ownsRow_below h hb
/-- The world behind '[]byte(s)'. -/
theorem bytes_below (w : World) (e : TypeId) (s : ByteArray) : Below w.heap.size w (Lib.bytesWorld w e s) :=
  ⟨rfl, rfl, rfl, by rw [Lib.bytesWorld_size]; omega, fun k hk => Lib.bytesWorld_at_old w e s k hk⟩
theorem bytes_free (w : World) (e : TypeId) (s : ByteArray) (j : Nat) (hj : j < s.size) : (Lib.bytesWorld w e s).frozen? ⟨w.heap.size, j, none⟩ = false := by
  have hs : j < (Lib.bytesCells w e s).size := by
    simp [Lib.bytesCells]; omega
  simp [World.frozen?, Lib.bytesWorld_at_new]
  omega
end Go.Proofs.YtnojgejcmaajmaaDoor

namespace Go.Proofs.YtnojgejcmaajmaaDoor
open Go.RowKit
/-- The small letter of a byte. -/
def lowB (c : UInt8) : UInt8 := if 65 ≤ c.toNat ∧ c.toNat ≤ 90 then c + 32 else c
def lowL (l : List UInt8) : List UInt8 := l.map lowB
def lowS (s : ByteArray) : ByteArray := txt (lowL s.data.toList)
def byteAt (s : ByteArray) (j : Nat) : UInt8 := s.data.toList.getD j 0
theorem byteAt_eq (s : ByteArray) (j : Nat) (h : j < s.size) : s[j] = byteAt s j := by
  unfold byteAt; simp [List.getD, h]; rfl
theorem byteAt_take (s : ByteArray) (k : Nat) (h : k < s.size) : s.data.toList.take (k + 1) = s.data.toList.take k ++ [byteAt s k] := by
  rw [List.take_succ_eq_append_getElem (by simpa using h), ← byteAt_eq s k h]; rfl
theorem lowB_yes (c : UInt8) (h1 : 65 ≤ c.toNat) (h2 : c.toNat ≤ 90) : (lowB c).toNat = c.toNat + 32 := by
  unfold lowB; rw [if_pos ⟨h1, h2⟩]; simp; omega
theorem lowB_no (c : UInt8) (h : ¬ (65 ≤ c.toNat ∧ c.toNat ≤ 90)) : lowB c = c := by
  unfold lowB; rw [if_neg h]
theorem lowL_length (l : List UInt8) : (lowL l).length = l.length := by simp [lowL]
theorem lowL_take (s : ByteArray) (k : Nat) (h : k < s.size) : lowL (s.data.toList.take (k + 1)) = lowL (s.data.toList.take k) ++ [lowB (byteAt s k)] := by
  rw [byteAt_take s k h]; simp [lowL]
end Go.Proofs.YtnojgejcmaajmaaDoor

namespace Go.Proofs.YtnojgejcmaajmaaDoor
open Go.RowKit
def tyS : ByteArray := ⟨#[116, 121, 112, 101]⟩
/-- The text that tells the type, in small letters. -/
def tyOf (ax : List (ByteArray × ByteArray)) : Option ByteArray := (findA ax tyS).map fun i => lowS (ax.getD i at0).2
def byT (o : Option ByteArray) (f l : Nat) (z : Int) : Int := match o with
  | none => z
  | some t => kInt (seekR t f l 30 0) z
def kOf (name : ByteArray) (o : Option ByteArray) : Int :=
  if name = ⟨#[105, 110, 112, 117, 116]⟩ then byT o 1 22 2 else if name = ⟨#[115, 101, 108, 101, 99, 116]⟩ then 23 else if name = ⟨#[116, 101, 120, 116, 97, 114, 101, 97]⟩ then 24 else if name = ⟨#[98, 117, 116, 116, 111, 110]⟩ then byT o 25 27 25 else
  match seekL name 8 0 with
  | none => 0
  | some i => 28 + (i : Int)
theorem seek_step (t : ByteArray) (f l k : Nat) (h : k < 30) : seekR t f l (30 - k) k = if (Nat.ble f k && (Nat.ble k l && decide (typeN k = t))) = true then some k else seekR t f l (30 - (k + 1)) (k + 1) := by
  rw [show 30 - k = (30 - (k + 1)) + 1 by omega]; rfl
theorem seekL_step (t : ByteArray) (k : Nat) (h : k < 8) : seekL t (8 - k) k = if lastN k = t then some k else seekL t (8 - (k + 1)) (k + 1) := by
  rw [show 8 - k = (8 - (k + 1)) + 1 by omega]; rfl
theorem btw_nat (k f l : Nat) : btwB (k : Int) (f : Int) (l : Int) = (Nat.ble f k && Nat.ble k l) := by
  unfold btwB
  rw [Bool.eq_iff_iff, decide_eq_true_eq, Bool.and_eq_true, Nat.ble_eq, Nat.ble_eq]
  omega
theorem seek_hit {t : ByteArray} {f l k : Nat} {A : Option Nat} (h : k < 30) (hs : seekR t f l (30 - k) k = A) (hb : btwB (k : Int) f l = true) (he : typeN k = t) : A = some k := by
  rw [btw_nat, Bool.and_eq_true] at hb
  rw [← hs, seek_step t f l k h, hb.1, hb.2, decide_eq_true he]; rfl
theorem seek_miss {t : ByteArray} {f l k : Nat} {A : Option Nat} (h : k < 30) (hs : seekR t f l (30 - k) k = A) (hb : btwB (k : Int) f l = false ∨ ¬ typeN k = t) : seekR t f l (30 - (k + 1)) (k + 1) = A := by
  rw [← hs, seek_step t f l k h, if_neg]
  rw [Bool.and_eq_true, Bool.and_eq_true, decide_eq_true_eq]
  rintro ⟨q1, q2, q3⟩
  rcases hb with r | r
  · rw [btw_nat, q1, q2] at r; cases r
  · exact r q3
theorem typeS_nat {k : Nat} (h : k < 30) : typeS (k : Int) = typeN k := by
  unfold typeS
  rw [if_pos (by omega), Int.toNat_natCast]
theorem seek_from (t : ByteArray) : seekR t 1 22 (30 - 1) 1 = seekR t 1 22 30 0 := rfl
theorem seek_to (t : ByteArray) : seekR t 1 22 (30 - 23) 23 = none := rfl
theorem seek_empty : seekR ⟨#[]⟩ 1 22 30 0 = none := by decide +kernel
theorem seek_button (t : ByteArray) : kInt (seekR t 25 27 30 0) 25 = if t = ⟨#[114, 101, 115, 101, 116]⟩ then 26 else if t = ⟨#[98, 117, 116, 116, 111, 110]⟩ then 27 else 25 := by
  have e : seekR t 25 27 30 0 = (if decide (typeN 25 = t) = true then some 25 else if decide (typeN 26 = t) = true then some 26 else if decide (typeN 27 = t) = true then some 27 else none) := rfl
  have d6 : typeN 26 = ⟨#[114, 101, 115, 101, 116]⟩ := rfl
  have d7 : typeN 27 = ⟨#[98, 117, 116, 116, 111, 110]⟩ := rfl
  have n1 : ¬ typeN 25 = typeN 26 := by decide +kernel
  have n2 : ¬ typeN 25 = typeN 27 := by decide +kernel
  have n3 : ¬ typeN 26 = typeN 27 := by decide +kernel
  rw [e, ← d6, ← d7]
  by_cases h5 : typeN 25 = t
  · rw [decide_eq_true h5, if_pos (show true = true from rfl), if_neg (show ¬ t = typeN 26 from fun q => n1 (h5.trans q)), if_neg (show ¬ t = typeN 27 from fun q => n2 (h5.trans q))]; rfl
  · rw [decide_eq_false h5, if_neg (show ¬ false = true by decide)]
    by_cases h6 : typeN 26 = t
    · rw [decide_eq_true h6, if_pos (show true = true from rfl), if_pos (show t = typeN 26 from h6.symm)]; rfl
    · rw [decide_eq_false h6, if_neg (show ¬ false = true by decide), if_neg (show ¬ t = typeN 26 from fun q => h6 q.symm)]
      by_cases h7 : typeN 27 = t
      · rw [decide_eq_true h7, if_pos (show true = true from rfl), if_pos (show t = typeN 27 from h7.symm)]; rfl
      · rw [decide_eq_false h7, if_neg (show ¬ false = true by decide), if_neg (show ¬ t = typeN 27 from fun q => h7 q.symm)]; rfl
theorem lit_dec (a : ByteArray) (l : List UInt8) : (a.toList == l) = decide (a = ⟨l.toArray⟩) := by
  by_cases h : a = ⟨l.toArray⟩
  · rw [decide_eq_true h, lit_yes h]
  · rw [decide_eq_false h, lit_no h]
end Go.Proofs.YtnojgejcmaajmaaDoor

namespace Go.Proofs.YtnojgejcmaajmaaDoor
open Go.RowKit
/-- A node's kind; is a node there, of a kind, in a right document? Has it an attribute? -/
def kN (n : Nd) : Int := kOf n.name (tyOf n.attrs)
def hasA (n : Nd) (s : ByteArray) : Bool := (findA n.attrs s).isSome
end Go.Proofs.YtnojgejcmaajmaaDoor

namespace Go.Proofs.YtnojgejcmaajmaaDoor
open Go.RowKit
def inR (l : List Nd) (k : Int) : Prop := 0 ≤ k ∧ k < (l.length : Int)
def kidsI (l : List Nd) (k : Int) : List Int := (nd l k.toNat).kids
/-- A node and what is within it. -/
def downF (l : List Nd) : Nat → Int → List Int
  | 0, _ => []
  | n + 1, k => k :: (kidsI l k).flatMap (downF l n)
/-- So much fuel is enough. -/
def Sub (l : List Nd) : Nat → Int → Prop
  | 0, _ => False
  | n + 1, k => inR l k ∧ ∀ c ∈ kidsI l k, Sub l n c
/-- So many steps below a node without a parent. -/
def Dep (l : List Nd) : Nat → Int → Prop
  | 0, k => inR l k ∧ parI l k = -1
  | n + 1, k => inR l k ∧ Dep l n (parI l k)
theorem Dep.rng {l : List Nd} : ∀ {d : Nat} {k : Int}, Dep l d k → inR l k
  | 0, _, h => h.1
  | _ + 1, _, h => h.1
theorem Dep.one {l : List Nd} : ∀ {d e : Nat} {k : Int}, Dep l d k → Dep l e k → d = e
  | 0, 0, _, _, _ => rfl
  | 0, e + 1, k, h, g => by have := g.2.rng; rw [h.2] at this; exact absurd this.1 (by omega)
  | d + 1, 0, k, h, g => by have := h.2.rng; rw [g.2] at this; exact absurd this.1 (by omega)
  | d + 1, e + 1, k, h, g => by rw [Dep.one h.2 g.2]
/-- The nodes on the way up. -/
def upL (l : List Nd) : Nat → Int → List Int
  | 0, k => [k]
  | n + 1, k => k :: upL l n (parI l k)
theorem upL_len (l : List Nd) : ∀ (d : Nat) (k : Int), (upL l d k).length = d + 1
  | 0, _ => rfl
  | d + 1, k => by show (upL l d (parI l k)).length + 1 = _; rw [upL_len l d]
theorem upL_dep {l : List Nd} : ∀ {d : Nat} {k x : Int}, Dep l d k → x ∈ upL l d k → ∃ e, e ≤ d ∧ Dep l e x
  | 0, k, x, h, hx => by
    have : x = k := by simpa [upL] using hx
    rw [this]; exact ⟨0, Nat.le_refl _, h⟩
  | d + 1, k, x, h, hx => by
    rcases List.mem_cons.1 hx with q | q
    · rw [q]; exact ⟨d + 1, Nat.le_refl _, h⟩
    · obtain ⟨e, h1, h2⟩ := upL_dep h.2 q
      exact ⟨e, by omega, h2⟩
theorem upL_nodup {l : List Nd} : ∀ {d : Nat} {k : Int}, Dep l d k → (upL l d k).Nodup
  | 0, k, _ => by simp [upL]
  | d + 1, k, h => by
    refine List.nodup_cons.2 ⟨fun q => ?_, upL_nodup h.2⟩
    obtain ⟨e, h1, h2⟩ := upL_dep h.2 q
    have := Dep.one h2 h
    omega
theorem Dep.lt {l : List Nd} {d : Nat} {k : Int} (h : Dep l d k) : d < l.length := by
  have := nodup_len l.length (upL l d k) (upL_nodup h) (fun x hx => by
    obtain ⟨e, _, h2⟩ := upL_dep h hx
    exact h2.rng)
  rw [upL_len] at this
  omega
/-- Each child is there, tells its parent, and stands once. -/
structure Linked (l : List Nd) : Prop where
  kid : ∀ i, i < l.length → ∀ c ∈ (nd l i).kids, inR l c ∧ parI l c = (i : Int)
  once : ∀ i, i < l.length → (nd l i).kids.Nodup
theorem Linked.kidI {l : List Nd} (h : Linked l) {k c : Int} (hk : inR l k) (hc : c ∈ kidsI l k) : inR l c ∧ parI l c = k := by
  have := h.kid k.toNat (by have := hk.1; have := hk.2; omega) c hc
  rw [Int.toNat_of_nonneg hk.1] at this
  exact this
theorem Linked.onceI {l : List Nd} (h : Linked l) {k : Int} (hk : inR l k) : (kidsI l k).Nodup := h.once k.toNat (by have := hk.1; have := hk.2; omega)
theorem dep_sub {l : List Nd} (h : Linked l) : ∀ (f : Nat) {d : Nat} {k : Int}, Dep l d k → l.length ≤ d + f → Sub l f k
  | 0, d, k, hd, hf => by have := hd.lt; omega
  | f + 1, d, k, hd, hf => ⟨hd.rng, fun c hc => by
    have q := h.kidI hd.rng hc
    exact dep_sub h f (d := d + 1) (show inR l c ∧ Dep l d (parI l c) from ⟨q.1, by rw [q.2]; exact hd⟩) (by omega)⟩
theorem Sub.rng {l : List Nd} : ∀ {f : Nat} {k : Int}, Sub l f k → inR l k
  | 0, _, h => h.elim
  | _ + 1, _, h => h.1
theorem Sub.mono {l : List Nd} : ∀ {f : Nat} {k : Int}, Sub l f k → Sub l (f + 1) k
  | 0, _, h => h.elim
  | _ + 1, _, h => ⟨h.1, fun c hc => (h.2 c hc).mono⟩
theorem down_range {l : List Nd} : ∀ {f : Nat} {k x : Int}, Sub l f k → x ∈ downF l f k → inR l x
  | 0, _, _, h, _ => h.elim
  | f + 1, k, x, h, hx => by
    rcases List.mem_cons.1 hx with q | q
    · rw [q]; exact h.1
    · obtain ⟨c, h1, h2⟩ := List.mem_flatMap.1 q
      exact down_range (h.2 c h1) h2
theorem down_self {l : List Nd} {f : Nat} {k : Int} (h : Sub l f k) : k ∈ downF l f k := by
  cases f with
  | zero => exact h.elim
  | succ f => exact List.mem_cons_self ..
/-- Who is gone to is the first, or a child of one that is gone to. -/
theorem down_from {l : List Nd} : ∀ {f : Nat} {k x : Int}, Sub l f k → x ∈ downF l f k → x = k ∨ ∃ p, inR l p ∧ x ∈ kidsI l p
  | 0, _, _, h, _ => h.elim
  | f + 1, k, x, h, hx => by
    rcases List.mem_cons.1 hx with q | q
    · exact .inl q
    · obtain ⟨c, h1, h2⟩ := List.mem_flatMap.1 q
      rcases down_from (h.2 c h1) h2 with r | r
      · rw [r]; exact .inr ⟨k, h.1, h1⟩
      · exact .inr r
theorem down_kids {l : List Nd} : ∀ {f : Nat} {k p c : Int}, Sub l f k → p ∈ downF l f k → c ∈ kidsI l p → c ∈ downF l f k
  | 0, _, _, _, h, _, _ => h.elim
  | f + 1, k, p, c, h, hp, hc => by
    rcases List.mem_cons.1 hp with q | q
    · rw [q] at hc
      exact List.mem_cons_of_mem _ (List.mem_flatMap.2 ⟨c, hc, down_self (h.2 c hc)⟩)
    · obtain ⟨d, h1, h2⟩ := List.mem_flatMap.1 q
      exact List.mem_cons_of_mem _ (List.mem_flatMap.2 ⟨d, h1, down_kids (h.2 d h1) h2 hc⟩)
/-- So many steps up. -/
def upN (l : List Nd) : Nat → Int → Int
  | 0, k => k
  | n + 1, k => upN l n (parI l k)
theorem upN_succ (l : List Nd) : ∀ (n : Nat) (k : Int), upN l (n + 1) k = parI l (upN l n k)
  | 0, _ => rfl
  | n + 1, k => by show upN l (n + 1) (parI l k) = _; rw [upN_succ l n]; rfl
theorem down_dep {l : List Nd} (h : Linked l) : ∀ {f d : Nat} {k x : Int}, Dep l d k → x ∈ downF l f k → ∃ e, Dep l (d + e) x ∧ upN l e x = k
  | 0, _, _, _, _, hx => by cases hx
  | f + 1, d, k, x, hd, hx => by
    rcases List.mem_cons.1 hx with q | q
    · rw [q]; exact ⟨0, hd, rfl⟩
    · obtain ⟨c, h1, h2⟩ := List.mem_flatMap.1 q
      have r := h.kidI hd.rng h1
      obtain ⟨e, g1, g2⟩ := down_dep h (d := d + 1) (show inR l c ∧ Dep l d (parI l c) from ⟨r.1, by rw [r.2]; exact hd⟩) h2
      refine ⟨e + 1, by rw [show d + (e + 1) = d + 1 + e by omega]; exact g1, ?_⟩
      rw [upN_succ, g2, r.2]
theorem nodup_flat {α β : Type} {g : α → List β} : ∀ {L : List α}, L.Nodup → (∀ x ∈ L, (g x).Nodup) → (∀ x ∈ L, ∀ y ∈ L, ∀ z, z ∈ g x → z ∈ g y → x = y) → (L.flatMap g).Nodup
  | [], _, _, _ => by simp
  | a :: L, hn, h1, h2 => by
    have hn := List.nodup_cons.1 hn
    rw [List.flatMap_cons, List.nodup_append]
    refine ⟨h1 a (List.mem_cons_self ..), nodup_flat hn.2 (fun x hx => h1 x (List.mem_cons_of_mem _ hx)) (fun x hx y hy => h2 x (List.mem_cons_of_mem _ hx) y (List.mem_cons_of_mem _ hy)), fun x hx y hy e => ?_⟩
    obtain ⟨b, h3, h4⟩ := List.mem_flatMap.1 hy
    rw [← e] at h4
    have := h2 a (List.mem_cons_self ..) b (List.mem_cons_of_mem _ h3) x hx h4
    rw [this] at hn
    exact hn.1 h3
theorem down_nodup {l : List Nd} (h : Linked l) : ∀ {f d : Nat} {k : Int}, Dep l d k → (downF l f k).Nodup
  | 0, _, _, _ => by simp [downF]
  | f + 1, d, k, hd => by
    have D : ∀ c ∈ kidsI l k, Dep l (d + 1) c := fun c hc => by
      have r := h.kidI hd.rng hc
      exact show inR l c ∧ Dep l d (parI l c) from ⟨r.1, by rw [r.2]; exact hd⟩
    refine List.nodup_cons.2 ⟨fun q => ?_, nodup_flat (h.onceI hd.rng) (fun c hc => down_nodup h (D c hc)) (fun x hx y hy z h1 h2 => ?_)⟩
    · obtain ⟨c, h1, h2⟩ := List.mem_flatMap.1 q
      obtain ⟨e, g1, _⟩ := down_dep h (D c h1) h2
      have := Dep.one g1 hd
      omega
    · obtain ⟨e1, g1, g2⟩ := down_dep h (D x hx) h1
      obtain ⟨e2, g3, g4⟩ := down_dep h (D y hy) h2
      have := Dep.one g1 g3
      obtain rfl : e1 = e2 := by omega
      rw [← g2, ← g4]
/-- The nodes without a parent, in order of their numbers; all that they lead to. -/
def rootsL (l : List Nd) : List Int := ((List.range l.length).filter fun i => (nd l i).parent == -1).map fun i : Nat => (i : Int)
theorem mem_roots {l : List Nd} {r : Int} : r ∈ rootsL l ↔ inR l r ∧ parI l r = -1 := by
  unfold rootsL
  rw [List.mem_map]
  constructor
  · rintro ⟨i, hi, rfl⟩
    rw [List.mem_filter, List.mem_range, beq_iff_eq] at hi
    exact ⟨⟨by omega, by omega⟩, by unfold parI; rw [Int.toNat_natCast]; exact hi.2⟩
  · rintro ⟨⟨h1, h2⟩, h3⟩
    refine ⟨r.toNat, ?_, Int.toNat_of_nonneg h1⟩
    rw [List.mem_filter, List.mem_range, beq_iff_eq]
    exact ⟨by omega, h3⟩
theorem nodup_cast {L : List Nat} (h : L.Nodup) : (L.map fun i : Nat => (i : Int)).Nodup := List.pairwise_map.2 (h.imp fun {a b} hab e => hab (by omega))
theorem count_one {L : List Int} {x : Int} (h : L.Nodup) (hx : x ∈ L) : List.count x L = 1 := by
  have h1 := List.nodup_iff_count.1 h x
  have h2 := List.count_pos_iff.2 hx
  omega
theorem roots_nodup (l : List Nd) : (rootsL l).Nodup := by
  unfold rootsL
  refine nodup_cast ?_
  exact List.nodup_range.filter _
def allL (l : List Nd) : List Int := (rootsL l).flatMap (downF l l.length)
theorem root_dep {l : List Nd} {r : Int} (h : r ∈ rootsL l) : Dep l 0 r := mem_roots.1 h
theorem root_sub {l : List Nd} (h : Linked l) {r : Int} (hr : r ∈ rootsL l) : Sub l l.length r := dep_sub h _ (root_dep hr) (by omega)
theorem all_nodup {l : List Nd} (h : Linked l) : (allL l).Nodup := by
  refine nodup_flat (roots_nodup l) (fun r hr => down_nodup h (root_dep hr)) (fun x hx y hy z h1 h2 => ?_)
  obtain ⟨e1, g1, g2⟩ := down_dep h (root_dep hx) h1
  obtain ⟨e2, g3, g4⟩ := down_dep h (root_dep hy) h2
  have := Dep.one g1 g3
  obtain rfl : e1 = e2 := by omega
  rw [← g2, ← g4]
theorem all_range {l : List Nd} (h : Linked l) {x : Int} (hx : x ∈ allL l) : inR l x := by
  obtain ⟨r, h1, h2⟩ := List.mem_flatMap.1 hx
  exact down_range (root_sub h h1) h2
theorem all_full {l : List Nd} (h : Linked l) (hl : (allL l).length = l.length) {x : Int} (hx : inR l x) : x ∈ allL l := by
  by_cases q : x ∈ allL l
  · exact q
  · have := nodup_len l.length (x :: allL l) (List.nodup_cons.2 ⟨q, all_nodup h⟩) (fun y hy => by
      rcases List.mem_cons.1 hy with r | r
      · rw [r]; exact hx
      · exact all_range h r)
    rw [List.length_cons, hl] at this
    omega
theorem dep_climb {l : List Nd} : ∀ {d : Nat} {k : Int}, Dep l d k → climb l (d + 1) k < 0
  | 0, k, h => by
    show (if k < 0 then k else parI l k) < 0
    rw [if_neg (by have := h.1.1; omega), h.2]; omega
  | d + 1, k, h => by
    show (if k < 0 then k else climb l (d + 1) (parI l k)) < 0
    rw [if_neg (by have := h.1.1; omega)]
    exact dep_climb h.2
/-- What the program asks is what the document asks. -/
theorem right_of {l : List Nd} (h1 : 1 ≤ l.length ∧ l.length ≤ 400) (h2 : ¬ (nd l 0).name.size = 0) (h3 : (nd l 0).parent = -1) (h4 : ∀ i, i < l.length → aloneB (nd l i) = true) (h5 : Linked l) (h6 : (allL l).length = l.length) : Right l := by
  have A : ∀ i : Nat, i < l.length → ∃ d, Dep l d (i : Int) ∧ (parI l (i : Int) = -1 ∨ ∃ p, inR l p ∧ (i : Int) ∈ kidsI l p) := by
    intro i hi
    have := all_full h5 h6 (x := (i : Int)) ⟨by omega, by omega⟩
    obtain ⟨r, g1, g2⟩ := List.mem_flatMap.1 this
    obtain ⟨e, g3, _⟩ := down_dep h5 (root_dep g1) g2
    refine ⟨_, g3, ?_⟩
    rcases down_from (root_sub h5 g1) g2 with q | q
    · rw [q]; exact .inl (root_dep g1).2
    · exact .inr q
  have PI : ∀ i : Nat, parI l (i : Int) = (nd l i).parent := fun i => by unfold parI; rw [Int.toNat_natCast]
  have hp : ∀ i, i < l.length → -1 ≤ (nd l i).parent ∧ (nd l i).parent < l.length := by
    intro i hi
    obtain ⟨d, g1, g2⟩ := A i hi
    rw [← PI i]
    rcases g2 with q | ⟨p, q1, q2⟩
    · rw [q]; omega
    · rw [(h5.kidI q1 q2).2]
      have := q1.1; have := q1.2; omega
  refine ⟨h1, h2, h3, h4, hp, fun i hi q => ?_, fun i hi c hc => ?_, fun i hi => ?_⟩
  · obtain ⟨d, g1, g2⟩ := A i hi
    rcases g2 with r | ⟨p, q1, q2⟩
    · rw [PI i] at r; omega
    · have e := (h5.kidI q1 q2).2
      rw [PI i] at e
      rw [e]
      exact count_one (h5.onceI q1) q2
  · have := h5.kid i hi c hc
    exact ⟨this.1.1, this.1.2, this.2⟩
  · obtain ⟨d, g1, g2⟩ := A i hi
    exact ends_of (fun i hi => (hp i hi).2) (by omega) (dep_climb g1)
theorem right_linked {l : List Nd} (h : Right l) : Linked l := ⟨fun i hi c hc => by have := h.kid i hi c hc; exact ⟨⟨this.1, this.2.1⟩, this.2.2⟩, fun i hi => kids_nodup h hi⟩
theorem right_all {l : List Nd} (h : Right l) : ∀ (d : Nat) {k : Int}, inR l k → hgt l k ≤ d → k ∈ allL l
  | 0, k, hk, hd => by
    have := hgt_up (h.ende hk.2) (by have := hk.1; omega); omega
  | d + 1, k, hk, hd => by
    have n0 : ¬ k < 0 := by have := hk.1; omega
    have e := hgt_up (h.ende hk.2) n0
    have u := h.up n0 hk.2
    by_cases q : parI l k < 0
    · have r : k ∈ rootsL l := mem_roots.2 ⟨hk, by omega⟩
      exact List.mem_flatMap.2 ⟨k, r, down_self (root_sub (right_linked h) r)⟩
    · have ih := right_all h d (k := parI l k) ⟨by omega, u.2⟩ (by omega)
      obtain ⟨r, g1, g2⟩ := List.mem_flatMap.1 ih
      refine List.mem_flatMap.2 ⟨r, g1, down_kids (root_sub (right_linked h) g1) g2 ?_⟩
      have hk0 : k.toNat < l.length := by have := hk.2; omega
      have c := h.cnt k.toNat hk0 q
      rw [Int.toNat_of_nonneg hk.1] at c
      exact List.count_pos_iff.1 (by have c : List.count k (kidsI l (parI l k)) = 1 := c; omega)
theorem nodup_sub : ∀ {A B : List Int}, A.Nodup → (∀ x ∈ A, x ∈ B) → A.length ≤ B.length
  | [], _, _, _ => Nat.zero_le _
  | a :: A, B, hn, h => by
    have hn := List.nodup_cons.1 hn
    have ha := h a (List.mem_cons_self ..)
    have := nodup_sub (A := A) (B := B.erase a) hn.2 (fun x hx => by
      have := h x (List.mem_cons_of_mem _ hx)
      exact (List.mem_erase_of_ne (fun e => hn.1 (by rw [← e]; exact hx))).2 this)
    rw [List.length_erase_of_mem ha] at this
    have := List.length_pos_of_mem ha
    rw [List.length_cons]
    omega
theorem right_reached {l : List Nd} (h : Right l) : (allL l).length = l.length := by
  have h1 := nodup_len l.length (allL l) (all_nodup (right_linked h)) (fun x hx => all_range (right_linked h) hx)
  have h2 := nodup_sub (A := (List.range l.length).map fun i : Nat => (i : Int)) (B := allL l) (nodup_cast List.nodup_range) (fun x hx => by
    obtain ⟨i, g1, rfl⟩ := List.mem_map.1 hx
    have := List.mem_range.1 g1
    exact right_all h _ ⟨by omega, by omega⟩ (Nat.le_refl _))
  rw [List.length_map, List.length_range] at h2
  omega

end Go.Proofs.YtnojgejcmaajmaaDoor
