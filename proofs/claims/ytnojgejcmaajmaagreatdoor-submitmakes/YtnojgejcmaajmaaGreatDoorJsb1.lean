/- Facts of no program. Documents as lists of nodes. Documents as they lie in the world. Attributes of an element found by a name. The document's Name, Find, count of layer 10. The document's Right of layer 10. Ways up in a right document. The document's Has, Within, Attr, Top, Up of layer 10. Ways up that end at all end within as many steps as there are nodes. Documents that are changed stay right. A node that was taken away and put back where it was leaves the document as it was. A node and what is within it, in order. The document's Text of layer 10. The types of kinds, and the names of elements, as tables of texts. Kinds of elements. Facts of no program. Small letters of texts, as lists of bytes. What kind a node is, as a function of its name and its attributes. The text of the first attribute of a name. What a control has, as a structure. A select's options and which of them are selected, as functions of documents and states. A name that is none. A block of the call's own. append of a row that lies anywhere to a row of the call's own. -/
import Derived.Test.YtnojgejcmaajmaaGreatDoorRows
import Derived.WalkKit
import Derived.ProofKit
import Derived.OpenShut
import Derived.ShutString
import Derived.Below
import Derived.WalkSpells
import Derived.WalkLawsBesides
import Derived.KernelRfl
import Derived.Shelf.Abstract
import Derived.Deep.QuietTactic
import Derived.BigQuiet
import Derived.Laws.BytesArg
import Derived.Lib.ConvBytes
import Derived.Lib.AppendStr
import Derived.Lib.SlTrimSet
import Derived.Deep.AppendLies
import Derived.Maps.AppendAt
import Derived.Laws.OwnMore

namespace Go.Proofs.YtnojgejcmaajmaaGreatDoor
open Go.RowKit
theorem hide {p : Prop} (h : p) : Hid p := h
theorem ret_int {k : IntKind} {a b : Int} (h : a = b) : Ending.returned (.int k a) = .returned (.int k b) := by rw [h]
theorem ret_bool {a b : Bool} (h : a = b) : Ending.returned (.bool a) = .returned (.bool b) := by rw [h]
/-- Two calls behind one another. -/
theorem chain {w w1 w2 : World} (h1 : Below w.heap.size w w1) (h2 : Below w1.heap.size w1 w2) : Below w.heap.size w w2 := h1.trans (h2.mono h1.size)
end Go.Proofs.YtnojgejcmaajmaaGreatDoor

namespace Go.Proofs.YtnojgejcmaajmaaGreatDoor
open Go.RowKit
/-- A node: its name and text, its attributes, its parent's number, its children's. -/
structure Nd where
  name : ByteArray
  text : ByteArray
  attrs : List (ByteArray × ByteArray)
  parent : Int
  kids : List Int
def nd0 : Nd := ⟨⟨#[]⟩, ⟨#[]⟩, [], -1, []⟩
def at0 : ByteArray × ByteArray := (⟨#[]⟩, ⟨#[]⟩)
def smallC (c : UInt8) : Bool := decide (97 ≤ c.toNat ∧ c.toNat ≤ 122)
def otherC (c : UInt8) : Bool := decide (48 ≤ c.toNat ∧ c.toNat ≤ 57) || c == 45
/-- May a sign stand at a place of a name? -/
def nmAt (i : Nat) (c : UInt8) : Bool := smallC c || (!(i == 0) && otherC c)
def nmAll : Nat → List UInt8 → Bool
  | _, [] => true
  | i, c :: l => nmAt i c && nmAll (i + 1) l
def nameOk (s : ByteArray) : Bool := decide (0 < s.size ∧ s.size ≤ 20) && nmAll 0 s.data.toList
theorem nmAll_bad : ∀ {l : List UInt8} {n k : Nat} (hk : k < l.length), nmAt (n + k) l[k] = false → nmAll n l = false
  | [], _, _, hk, _ => by cases hk
  | c :: l, n, 0, _, h => by
    have h : nmAt n c = false := h
    show (nmAt n c && nmAll (n + 1) l) = false
    rw [h]; rfl
  | c :: l, n, k + 1, hk, h => by
    have := nmAll_bad (l := l) (n := n + 1) (k := k) (by simpa using hk) (by rw [show n + 1 + k = n + (k + 1) by omega]; exact h)
    show (nmAt n c && nmAll (n + 1) l) = false
    rw [this, Bool.and_false]
theorem nmAll_all : ∀ {l : List UInt8} {n : Nat}, (∀ k (hk : k < l.length), nmAt (n + k) l[k] = true) → nmAll n l = true
  | [], _, _ => rfl
  | c :: l, n, h => by
    have h0 : nmAt n c = true := h 0 (by simp)
    have := nmAll_all (l := l) (n := n + 1) (fun k hk => by rw [show n + 1 + k = n + (k + 1) by omega]; exact h (k + 1) (by simpa using hk))
    show (nmAt n c && nmAll (n + 1) l) = true
    rw [h0, this]; rfl
/-- The place of an attribute. -/
def findA (ax : List (ByteArray × ByteArray)) (n : ByteArray) : Option Nat := ax.findIdx? fun a => decide (a.1 = n)
def findV (o : Option Nat) : Int := match o with
  | none => -1
  | some k => (k : Int)
def cntI (l : List Int) (n : Int) : Nat := l.count n
/-- A node by itself. -/
def attrOk (ax : List (ByteArray × ByteArray)) (i : Nat) : Bool := nameOk (ax.getD i at0).1 && (decide ((ax.getD i at0).2.size ≤ 4000) && findA ax (ax.getD i at0).1 == some i)
def aloneB (n : Nd) : Bool :=
  if n.name.size = 0 then n.attrs.isEmpty && (n.kids.isEmpty && decide (n.text.size ≤ 4000))
  else nameOk n.name && (n.text.size == 0 && (decide (n.attrs.length ≤ 40) && (List.range n.attrs.length).all (attrOk n.attrs)))
def nd (l : List Nd) (i : Nat) : Nd := l.getD i nd0
def parI (l : List Nd) (i : Int) : Int := (nd l i.toNat).parent
/-- A node among the others. -/
def kidOk (l : List Nd) (i : Nat) (c : Int) : Bool := decide (0 ≤ c ∧ c < l.length) && parI l c == (i : Int)
def nodeOk (l : List Nd) (i : Nat) : Bool := aloneB (nd l i) && (decide (-1 ≤ (nd l i).parent ∧ (nd l i).parent < l.length) && ((decide ((nd l i).parent < 0) || cntI (nd l (nd l i).parent.toNat).kids i == 1) && (nd l i).kids.all (kidOk l i)))
/-- So many steps up. -/
def climb (l : List Nd) : Nat → Int → Int
  | 0, k => k
  | n + 1, k => if k < 0 then k else climb l n (parI l k)
def rightB (l : List Nd) : Bool := decide (1 ≤ l.length ∧ l.length ≤ 400) && (!((nd l 0).name.size == 0) && ((nd l 0).parent == -1 && ((List.range l.length).all (nodeOk l) && (List.range l.length).all fun i => decide (climb l (l.length + 1) i < 0))))
end Go.Proofs.YtnojgejcmaajmaaGreatDoor

namespace Go.Proofs.YtnojgejcmaajmaaGreatDoor
open Go.RowKit
/-- A row of numbers behind a slice. -/
def IntsV (w : World) (v : Value) (ks : List Int) : Prop := ∃ p c, v = .slice p ks.length c ∧ (ks = [] ∨ ∃ b o, p = some ⟨b, o, none⟩ ∧ ∀ i (h : i < ks.length), w.cell? ⟨b, o + i, none⟩ = some (.int .i64 ks[i]))
/-- A row of attributes behind a slice. -/
def AttrsV (w : World) (v : Value) (ax : List (ByteArray × ByteArray)) : Prop := ∃ p c, v = .slice p ax.length c ∧ (ax = [] ∨ ∃ b o, p = some ⟨b, o, none⟩ ∧ ∀ i (h : i < ax.length), w.cell? ⟨b, o + i * 2, none⟩ = some (.string ax[i].1) ∧ w.cell? ⟨b, o + i * 2 + 1, none⟩ = some (.string ax[i].2))
/-- A slice is no longer than its room. -/
def CapOK (v : Value) : Prop := ∀ p n c, v = .slice p n c → n ≤ c
/-- A node's five cells. -/
structure NodeAt (w : World) (b o : Nat) (n : Nd) (va vk : Value) : Prop where
  name : w.cell? ⟨b, o, none⟩ = some (.string n.name)
  text : w.cell? ⟨b, o + 1, none⟩ = some (.string n.text)
  attrs : w.cell? ⟨b, o + 2, none⟩ = some va
  parent : w.cell? ⟨b, o + 3, none⟩ = some (.int .i64 n.parent)
  kids : w.cell? ⟨b, o + 4, none⟩ = some vk
  at_ : AttrsV w va n.attrs
  ks : IntsV w vk n.kids
  cap : CapOK va
/-- A document behind a slice. -/
def NodesV (w : World) (v : Value) (l : List Nd) : Prop := ∃ p c, v = .slice p l.length c ∧ (l = [] ∨ ∃ b o, p = some ⟨b, o, none⟩ ∧ ∀ i (h : i < l.length), ∃ va vk, NodeAt w b (o + i * 5) l[i] va vk)
theorem cell_below {w w' : World} {p : Addr} {x : Value} (h : w.cell? p = some x) (hb : Below w.heap.size w w') : w'.cell? p = some x := (hb.cell (World.block_lt_of_cell? _ _ h)).trans h
theorem IntsV.below {w w' : World} {v : Value} {ks : List Int} (h : IntsV w v ks) (hb : Below w.heap.size w w') : IntsV w' v ks := by
  obtain ⟨p, c, e, h⟩ := h
  refine ⟨p, c, e, ?_⟩
  rcases h with h | ⟨b, o, e2, h⟩
  · exact .inl h
  · exact .inr ⟨b, o, e2, fun i hi => cell_below (h i hi) hb⟩
theorem AttrsV.below {w w' : World} {v : Value} {ax : List (ByteArray × ByteArray)} (h : AttrsV w v ax) (hb : Below w.heap.size w w') : AttrsV w' v ax := by
  obtain ⟨p, c, e, h⟩ := h
  refine ⟨p, c, e, ?_⟩
  rcases h with h | ⟨b, o, e2, h⟩
  · exact .inl h
  · exact .inr ⟨b, o, e2, fun i hi => ⟨cell_below (h i hi).1 hb, cell_below (h i hi).2 hb⟩⟩
theorem NodeAt.below {w w' : World} {b o : Nat} {n : Nd} {va vk : Value} (h : NodeAt w b o n va vk) (hb : Below w.heap.size w w') : NodeAt w' b o n va vk :=
  ⟨cell_below h.name hb, cell_below h.text hb, cell_below h.attrs hb, cell_below h.parent hb, cell_below h.kids hb, h.at_.below hb, h.ks.below hb, h.cap⟩
theorem NodesV.below {w w' : World} {v : Value} {l : List Nd} (h : NodesV w v l) (hb : Below w.heap.size w w') : NodesV w' v l := by
  obtain ⟨p, c, e, h⟩ := h
  refine ⟨p, c, e, ?_⟩
  rcases h with h | ⟨b, o, e2, h⟩
  · exact .inl h
  · refine .inr ⟨b, o, e2, fun i hi => ?_⟩
    obtain ⟨va, vk, hn⟩ := h i hi
    exact ⟨va, vk, hn.below hb⟩
end Go.Proofs.YtnojgejcmaajmaaGreatDoor

namespace Go.Proofs.YtnojgejcmaajmaaGreatDoor
open Go.RowKit
set_option maxRecDepth 100000
theorem txt_beq (a b : ByteArray) : (a.toList == b.toList) = decide (a = b) := by
  rw [Bool.eq_iff_iff, beq_iff_eq, decide_eq_true_eq, ByteArray.toList_eq, ByteArray.toList_eq]
  constructor
  · intro h
    apply ByteArray.ext
    exact Array.ext' h
  · intro h; rw [h]
def isN (n : ByteArray) (x : ByteArray × ByteArray) : Bool := decide (x.1 = n)
/-- A function value that answers p of attributes, in every later world. -/
def PredA (g : Nat) (lb : Array Value) (p : ByteArray × ByteArray → Bool) (w : World) : Prop :=
  ∀ (W : World) (x : ByteArray × ByteArray), Below w.heap.size w W → Calls Tryz.prog g (#[.agg #[.string x.1, .string x.2]] ++ lb) W fun e w' => e = .returned (.bool (p x)) ∧ Below W.heap.size W w'
theorem PredA.later {g : Nat} {lb : Array Value} {p : ByteArray × ByteArray → Bool} {w w' : World} (h : PredA g lb p w) (hb : Below w.heap.size w w') : PredA g lb p w' := fun W x q => h W x (chain hb q)
theorem idx_hit {ax : List (ByteArray × ByteArray)} {p : ByteArray × ByteArray → Bool} {k : Nat} (h : k < ax.length) (hp : p ax[k] = true) (hd : ∀ j (hj : j < ax.length), j < k → p ax[j] = false) : ax.findIdx? p = some k := by
  rw [List.findIdx?_eq_some_iff_getElem]
  exact ⟨h, hp, fun j hj => by rw [hd j (by omega) hj]; decide⟩
theorem idx_miss {ax : List (ByteArray × ByteArray)} {p : ByteArray × ByteArray → Bool} (hd : ∀ j (hj : j < ax.length), p ax[j] = false) : ax.findIdx? p = none := by
  rw [List.findIdx?_eq_none_iff]
  intro x hx
  obtain ⟨j, hj, rfl⟩ := List.getElem_of_mem hx
  exact hd j hj
set_option maxHeartbeats 2000000 in
theorem indexFuncA_any (v : Value) (ax : List (ByteArray × ByteArray)) (p : ByteArray × ByteArray → Bool) (g : Nat) (lb : Array Value) (eg : ∀ args w, (callFunc g args).run Tryz.prog w = .ok (.enter g args) w) (w : World) (hv : AttrsV w v ax) (hp : PredA g lb p w) (hl : ax.length ≤ 4398046511104) :
    Calls Tryz.prog 139 #[v, .func (.func g) #[] lb] w fun e w' => e = .returned (.int .i64 (findV (ax.findIdx? p))) ∧ Below w.heap.size w w' := by
  obtain ⟨pp, c, rfl, hv⟩ := hv
  have HIT := hide (fun k h h1 h2 => idx_hit (ax := ax) (p := p) (k := k) h h1 h2)
  have MISS := hide (fun h => idx_miss (ax := ax) (p := p) h)
  generalize ax.findIdx? p = R at *
  have HP := hide hp
  clear hp
  go_enter Tryz.func139, Tryz.ntmps139
  go_wp2_with fail
  go_loopw [8] (fun iv wr => ∃ k : Nat, k ≤ ax.length ∧ iv = .int .i64 k ∧ Hid (∀ j (hj : j < ax.length), j < k → p ax[j] = false) ∧ Hid (Below w.heap.size w wr)) (fun iv _ => ax.length - (intOf iv).toNat)
  case atStart => exact ⟨0, Nat.zero_le _, rfl, fun j _ q => by omega, Below.refl _ _⟩
  case round =>
    rename World => wr
    obtain ⟨k, hk, rfl, hd, BW⟩ := hrel
    by_cases h : k < ax.length
    · have i1 : (k : Int) < (ax.length : Int) := by omega
      rcases hv with hv | ⟨b, o, rfl, hv⟩
      · rw [hv] at h; simp at h
      have c0 := cell_below (hv k h).1 BW.out
      have c1 := cell_below (hv k h).2 BW.out
      have HC := hide (HP.out wr ax[k] BW.out)
      have HK := hide (HIT.out k h)
      have ND := hide (fun q : p ax[k] = false => (fun j (hj : j < ax.length) (r : j < k + 1) => by
        rcases Nat.lt_or_ge j k with t | t
        · exact hd.out j hj t
        · obtain rfl : j = k := by omega
          exact q : ∀ j (hj : j < ax.length), j < k + 1 → p ax[j] = false))
      clear hv HP HIT MISS
      cases q : p ax[k] with
      | true =>
        have E := hide (HK.out q (fun j hj r => hd.out j hj r))
        rw [q] at HC
        clear HK ND q hd
        generalize ax[k].1 = x1 at *
        generalize ax[k].2 = x2 at *
        go_wp2_with fail
        refine HC.out.mono ?_
        rintro e w' ⟨rfl, hb'⟩
        go_wp2_with fail
        go_ret
        exact ⟨by rw [E.out]; rfl, chain BW.out hb'⟩
      | false =>
        have E := hide (ND.out q)
        rw [q] at HC
        clear HK ND q hd
        generalize ax[k].1 = x1 at *
        generalize ax[k].2 = x2 at *
        go_wp2_with fail
        refine HC.out.mono ?_
        rintro e w' ⟨rfl, hb'⟩
        go_wp2_with fail
        go_roundw
        case rel => exact ⟨k + 1, by omega, by go_num, E, chain BW.out hb'⟩
        case measure => simp [intOf]; omega
    · obtain rfl : k = ax.length := by omega
      have E := hide (MISS.out (fun j hj => hd.out j hj hj))
      clear HIT MISS hd hv HP h
      go_wp2_with fail
      go_ret
      exact ⟨by rw [E.out]; rfl, BW.out⟩
theorem findV_nonneg (o : Option Nat) : decide (0 ≤ findV o) = o.isSome := by
  cases o with
  | none => rfl
  | some k => exact decide_eq_true (by show (0 : Int) ≤ (k : Int); omega)
set_option maxHeartbeats 8000000 in
theorem containsFuncA_any (v : Value) (ax : List (ByteArray × ByteArray)) (p : ByteArray × ByteArray → Bool) (g : Nat) (lb : Array Value) (eg : ∀ args w, (callFunc g args).run Tryz.prog w = .ok (.enter g args) w) (w : World) (hv : AttrsV w v ax) (hp : PredA g lb p w) (hl : ax.length ≤ 4398046511104) :
    Calls Tryz.prog 177 #[v, .func (.func g) #[] lb] w fun e w' => e = .returned (.bool (ax.findIdx? p).isSome) ∧ Below w.heap.size w w' := by
  have HI := hide (indexFuncA_any v ax p g lb eg w hv hp hl)
  have E := hide (findV_nonneg (ax.findIdx? p))
  generalize (ax.findIdx? p).isSome = R at *
  generalize findV (ax.findIdx? p) = z at *
  clear hv hp
  go_enter Tryz.func177, Tryz.ntmps177
  go_wp2_with fail
  refine HI.out.mono ?_
  rintro e w1 ⟨rfl, b1⟩
  go_wp2_with fail
  go_ret
  exact ⟨ret_bool E.out, b1⟩
end Go.Proofs.YtnojgejcmaajmaaGreatDoor

namespace Go.Proofs.YtnojgejcmaajmaaGreatDoor
open Go.RowKit
set_option maxRecDepth 100000
theorem byte_at (s : ByteArray) (k : Nat) (h : k < s.size) : s.data.toList[k]'(by simpa using h) = s[k] := by simp; rfl
theorem name_no {s : ByteArray} {k : Nat} (hk : k < s.size) (h : nmAt k s[k] = false) : nameOk s = false := by
  unfold nameOk
  rw [nmAll_bad (l := s.data.toList) (n := 0) (k := k) (by simpa using hk) (by rw [Nat.zero_add, byte_at s k hk]; exact h), Bool.and_false]
theorem name_end {s : ByteArray} (h : ∀ k (_ : k < s.size), nmAt k s[k] = true) : nameOk s = decide (0 < s.size ∧ s.size ≤ 20) := by
  unfold nameOk
  rw [nmAll_all (l := s.data.toList) (n := 0) (fun k hk => by
    have hk2 : k < s.size := by simpa using hk
    rw [Nat.zero_add, byte_at s k hk2]; exact h k hk2), Bool.and_true]
theorem small_iff (c : UInt8) : smallC c = true ↔ 97 ≤ c.toNat ∧ c.toNat ≤ 122 := by unfold smallC; simp
theorem nm_small {i : Nat} {c : UInt8} (h : 97 ≤ c.toNat ∧ c.toNat ≤ 122) : nmAt i c = true := by unfold nmAt; rw [(small_iff c).2 h]; rfl
theorem nm_other {i : Nat} {c : UInt8} (hi : ¬ i = 0) (h : (48 ≤ c.toNat ∧ c.toNat ≤ 57) ∨ c.toNat = 45) : nmAt i c = true := by
  unfold nmAt
  have h1 : (i == 0) = false := by simpa using hi
  have h2 : otherC c = true := by
    unfold otherC
    rcases h with h | h
    · rw [decide_eq_true h]; rfl
    · have : c = 45 := UInt8.toNat_inj.1 h
      subst this; rfl
  rw [h1, h2]; simp
theorem nm_not {i : Nat} {c : UInt8} (h : ¬ (97 ≤ c.toNat ∧ c.toNat ≤ 122)) (h2 : i = 0 ∨ ¬ ((48 ≤ c.toNat ∧ c.toNat ≤ 57) ∨ c.toNat = 45)) : nmAt i c = false := by
  unfold nmAt
  have h1 : smallC c = false := by unfold smallC; exact decide_eq_false h
  rw [h1, Bool.false_or]
  rcases h2 with rfl | h2
  · rfl
  · have h3 : otherC c = false := by
      unfold otherC
      rw [decide_eq_false (fun q => h2 (.inl q)), Bool.false_or, beq_eq_false_iff_ne]
      exact fun q => h2 (.inr (by rw [q]; rfl))
    rw [h3, Bool.and_false]
end Go.Proofs.YtnojgejcmaajmaaGreatDoor

namespace Go.Proofs.YtnojgejcmaajmaaGreatDoor
open Go.RowKit
set_option maxRecDepth 100000
/-- Lengths that a machine has. -/
structure NdSz (n : Nd) : Prop where
  name : n.name.size ≤ maxLen
  text : n.text.size ≤ maxLen
  attr : ∀ a ∈ n.attrs, a.1.size ≤ maxLen ∧ a.2.size ≤ maxLen
  attrs : n.attrs.length ≤ 4398046511104
  kids : n.kids.length ≤ 17592186044416
  tx : ∀ a ∈ n.attrs, a.2.size ≤ 140737488351232
structure DocSz (l : List Nd) : Prop where
  len : l.length ≤ 1599289640354
  nds : ∀ n ∈ l, NdSz n
theorem nd_at {l : List Nd} {i : Nat} (h : i < l.length) : nd l i = l[i] := by unfold nd; simp [List.getD, h]
end Go.Proofs.YtnojgejcmaajmaaGreatDoor

namespace Go.Proofs.YtnojgejcmaajmaaGreatDoor
open Go.RowKit
/-- The nodes on the way up from a number, and how many they are. -/
def ancF (l : List Nd) : Nat → Int → List Int
  | 0, _ => []
  | n + 1, k => if k < 0 then [] else k :: ancF l n (parI l k)
def anc (l : List Nd) (k : Int) : List Int := ancF l (l.length + 1) k
def hgt (l : List Nd) (k : Int) : Nat := (anc l k).length
def Ends (l : List Nd) (k : Int) : Prop := climb l (l.length + 1) k < 0
theorem climb_more (l : List Nd) : ∀ {n : Nat} {k : Int} (m : Nat), climb l n k < 0 → climb l (n + m) k < 0
  | 0, k, m, h => by
    have h : k < 0 := h
    cases m with
    | zero => exact h
    | succ m =>
      rw [Nat.zero_add]
      show (if k < 0 then k else _) < 0
      rw [if_pos h]; exact h
  | n + 1, k, m, h => by
    rw [show n + 1 + m = (n + m) + 1 by omega]
    show (if k < 0 then k else climb l (n + m) (parI l k)) < 0
    have h : (if k < 0 then k else climb l n (parI l k)) < 0 := h
    split
    · assumption
    · rename_i q
      rw [if_neg q] at h
      exact climb_more l m h
theorem ancF_more (l : List Nd) : ∀ {n : Nat} {k : Int} (m : Nat), climb l n k < 0 → ancF l (n + m) k = ancF l n k
  | 0, k, m, h => by
    have h : k < 0 := h
    cases m with
    | zero => rfl
    | succ m =>
      rw [Nat.zero_add]
      show (if k < 0 then [] else _) = []
      rw [if_pos h]
  | n + 1, k, m, h => by
    rw [show n + 1 + m = (n + m) + 1 by omega]
    show (if k < 0 then [] else k :: ancF l (n + m) (parI l k)) = (if k < 0 then [] else k :: ancF l n (parI l k))
    have h : (if k < 0 then k else climb l n (parI l k)) < 0 := h
    split
    · rfl
    · rename_i q
      rw [if_neg q] at h
      rw [ancF_more l m h]
theorem anc_neg {l : List Nd} {k : Int} (h : k < 0) : anc l k = [] := by
  show (if k < 0 then [] else _) = []
  rw [if_pos h]
theorem ends_neg {l : List Nd} {k : Int} (h : k < 0) : Ends l k := by
  show (if k < 0 then k else _) < 0
  rw [if_pos h]; exact h
theorem anc_up {l : List Nd} {k : Int} (h : Ends l k) (hk : ¬ k < 0) : anc l k = k :: anc l (parI l k) := by
  have h : (if k < 0 then k else climb l l.length (parI l k)) < 0 := h
  rw [if_neg hk] at h
  show (if k < 0 then [] else k :: ancF l l.length (parI l k)) = k :: ancF l (l.length + 1) (parI l k)
  rw [if_neg hk, ancF_more l 1 h]
theorem hgt_up {l : List Nd} {k : Int} (h : Ends l k) (hk : ¬ k < 0) : hgt l k = hgt l (parI l k) + 1 := by
  unfold hgt
  rw [anc_up h hk]; rfl
/-- What a right document has. -/
structure Right (l : List Nd) : Prop where
  len : 1 ≤ l.length ∧ l.length ≤ 400
  head : ¬ (nd l 0).name.size = 0
  root : (nd l 0).parent = -1
  alone : ∀ i, i < l.length → aloneB (nd l i) = true
  par : ∀ i, i < l.length → -1 ≤ (nd l i).parent ∧ (nd l i).parent < l.length
  cnt : ∀ i, i < l.length → ¬ (nd l i).parent < 0 → cntI (nd l (nd l i).parent.toNat).kids i = 1
  kid : ∀ i, i < l.length → ∀ c ∈ (nd l i).kids, 0 ≤ c ∧ c < l.length ∧ parI l c = (i : Int)
  ends : ∀ i : Nat, i < l.length → Ends l (i : Int)
theorem right_is {l : List Nd} : rightB l = true ↔ Right l := by
  unfold rightB
  rw [Bool.and_eq_true, Bool.and_eq_true, Bool.and_eq_true, Bool.and_eq_true, decide_eq_true_eq, List.all_eq_true, List.all_eq_true]
  constructor
  · rintro ⟨h1, h2, h3, h4, h5⟩
    have N : ∀ i, i < l.length → nodeOk l i = true := fun i hi => h4 i (List.mem_range.2 hi)
    have P : ∀ i, i < l.length → aloneB (nd l i) = true ∧ (-1 ≤ (nd l i).parent ∧ (nd l i).parent < l.length) ∧ ((nd l i).parent < 0 ∨ cntI (nd l (nd l i).parent.toNat).kids i = 1) ∧ ∀ c ∈ (nd l i).kids, kidOk l i c = true := by
      intro i hi
      have := N i hi
      unfold nodeOk at this
      rw [Bool.and_eq_true, Bool.and_eq_true, Bool.and_eq_true, decide_eq_true_eq, Bool.or_eq_true, decide_eq_true_eq, beq_iff_eq, List.all_eq_true] at this
      exact this
    refine ⟨h1, by simpa using h2, by simpa using h3, fun i hi => (P i hi).1, fun i hi => (P i hi).2.1, fun i hi q => ?_, fun i hi c hc => ?_, fun i hi => show climb l (l.length + 1) (i : Int) < 0 from of_decide_eq_true (h5 i (List.mem_range.2 hi))⟩
    · rcases (P i hi).2.2.1 with r | r
      · exact absurd r q
      · exact r
    · have := (P i hi).2.2.2 c hc
      unfold kidOk at this
      rw [Bool.and_eq_true, decide_eq_true_eq, beq_iff_eq] at this
      exact ⟨this.1.1, this.1.2, this.2⟩
  · intro h
    refine ⟨h.len, by simpa using h.head, by rw [h.root]; rfl, fun i hi => ?_, fun i hi => decide_eq_true (show climb l (l.length + 1) (i : Int) < 0 from h.ends i (List.mem_range.1 hi))⟩
    have hi := List.mem_range.1 hi
    unfold nodeOk
    rw [Bool.and_eq_true, Bool.and_eq_true, Bool.and_eq_true, decide_eq_true_eq, Bool.or_eq_true, decide_eq_true_eq, beq_iff_eq, List.all_eq_true]
    refine ⟨h.alone i hi, h.par i hi, ?_, fun c hc => ?_⟩
    · by_cases q : (nd l i).parent < 0
      · exact .inl q
      · exact .inr (h.cnt i hi q)
    · have := h.kid i hi c hc
      unfold kidOk
      rw [Bool.and_eq_true, decide_eq_true_eq, beq_iff_eq]
      exact ⟨⟨this.1, this.2.1⟩, this.2.2⟩
theorem Right.up {l : List Nd} (h : Right l) {k : Int} (h0 : ¬ k < 0) (hk : k < l.length) : -1 ≤ parI l k ∧ parI l k < l.length := h.par k.toNat (by omega)
theorem Right.ende {l : List Nd} (h : Right l) {k : Int} (hk : k < l.length) : Ends l k := by
  by_cases q : k < 0
  · exact ends_neg q
  · have := h.ends k.toNat (by omega)
    rw [Int.toNat_of_nonneg (by omega)] at this
    exact this
/-- Is there a node, in a right document? -/
def hasN (l : List Nd) (id : Int) : Bool := decide (0 ≤ id ∧ id < l.length) && rightB l
end Go.Proofs.YtnojgejcmaajmaaGreatDoor

namespace Go.Proofs.YtnojgejcmaajmaaGreatDoor
open Go.RowKit
set_option maxRecDepth 100000
/-- A node that is there, in a right document. -/
structure Is (l : List Nd) (id : Int) (m : Nat) : Prop where
  right : Right l
  eq : id = (m : Int)
  lt : m < l.length
end Go.Proofs.YtnojgejcmaajmaaGreatDoor

namespace Go.Proofs.YtnojgejcmaajmaaGreatDoor
open Go.RowKit
/-- Different numbers below n are at most n. -/
theorem nodup_len : ∀ (n : Nat) (L : List Int), L.Nodup → (∀ x ∈ L, 0 ≤ x ∧ x < (n : Int)) → L.length ≤ n
  | 0, L, _, h => by
    cases L with
    | nil => exact Nat.le_refl _
    | cons x t => have := h x (List.mem_cons_self ..); omega
  | n + 1, L, hn, h => by
    have ih := nodup_len n (L.erase (n : Int)) (hn.erase _) (fun x hx => by
      have h1 := (hn.mem_erase_iff).1 hx
      have h2 := h x h1.2
      have h3 : x ≠ (n : Int) := h1.1
      omega)
    rw [List.length_erase] at ih
    split at ih <;> omega
theorem climb_add (l : List Nd) : ∀ (n m : Nat) (k : Int), climb l (n + m) k = climb l m (climb l n k)
  | 0, m, k => by rw [Nat.zero_add]; rfl
  | n + 1, m, k => by
    rw [show n + 1 + m = (n + m) + 1 by omega]
    show (if k < 0 then k else climb l (n + m) (parI l k)) = climb l m (if k < 0 then k else climb l n (parI l k))
    by_cases h : k < 0
    · rw [if_pos h, if_pos h]
      cases m with
      | zero => rfl
      | succ m => show k = (if k < 0 then k else _); rw [if_pos h]
    · rw [if_neg h, if_neg h, climb_add l n m]
theorem climb_loop (l : List Nd) {m : Nat} {k : Int} (h : climb l m k = k) : ∀ q, climb l (q * m) k = k
  | 0 => by rw [Nat.zero_mul]; rfl
  | q + 1 => by rw [Nat.succ_mul, climb_add, climb_loop l h q, h]
/-- A number that is met on the way up is so many steps up. -/
theorem anc_steps (l : List Nd) : ∀ (n : Nat) (k x : Int), x ∈ ancF l n k → ∃ m, m < n ∧ climb l m k = x ∧ 0 ≤ x
  | 0, _, _, h => by cases h
  | n + 1, k, x, h => by
    have h : x ∈ (if k < 0 then [] else k :: ancF l n (parI l k)) := h
    by_cases q : k < 0
    · rw [if_pos q] at h; cases h
    · rw [if_neg q] at h
      rcases List.mem_cons.1 h with e | e
      · exact ⟨0, by omega, e.symm, by omega⟩
      · obtain ⟨m, m1, m2, m3⟩ := anc_steps l n (parI l k) x e
        refine ⟨m + 1, by omega, ?_, m3⟩
        show (if k < 0 then k else climb l m (parI l k)) = x
        rw [if_neg q]; exact m2
theorem anc_nodup (l : List Nd) : ∀ (n : Nat) (k : Int), climb l n k < 0 → (ancF l n k).Nodup
  | 0, _, _ => List.nodup_nil
  | n + 1, k, h => by
    show (if k < 0 then [] else k :: ancF l n (parI l k)).Nodup
    by_cases q : k < 0
    · rw [if_pos q]; exact List.nodup_nil
    · rw [if_neg q]
      have h2 : climb l n (parI l k) < 0 := by
        have h : (if k < 0 then k else climb l n (parI l k)) < 0 := h
        rw [if_neg q] at h; exact h
      refine List.nodup_cons.2 ⟨fun hm => ?_, anc_nodup l n _ h2⟩
      obtain ⟨m, m1, m2, _⟩ := anc_steps l n _ _ hm
      have h3 : climb l (m + 1) k = k := by
        show (if k < 0 then k else climb l m (parI l k)) = k
        rw [if_neg q]; exact m2
      have h4 := climb_loop l h3 (n + 1)
      have h5 := climb_more l ((n + 1) * (m + 1) - (n + 1)) h
      rw [show n + 1 + ((n + 1) * (m + 1) - (n + 1)) = (n + 1) * (m + 1) by
        have : n + 1 ≤ (n + 1) * (m + 1) := Nat.le_mul_of_pos_right _ (by omega)
        omega, h4] at h5
      exact q h5
theorem anc_range (l : List Nd) (hp : ∀ i, i < l.length → (nd l i).parent < l.length) : ∀ (n : Nat) (k : Int), k < l.length → ∀ x ∈ ancF l n k, 0 ≤ x ∧ x < (l.length : Int)
  | 0, _, _, x, h => by cases h
  | n + 1, k, hk, x, h => by
    have h : x ∈ (if k < 0 then [] else k :: ancF l n (parI l k)) := h
    by_cases q : k < 0
    · rw [if_pos q] at h; cases h
    · rw [if_neg q] at h
      rcases List.mem_cons.1 h with e | e
      · subst e; exact ⟨by omega, hk⟩
      · exact anc_range l hp n _ (hp k.toNat (by omega)) x e
theorem climb_len (l : List Nd) : ∀ (n : Nat) (k : Int), climb l n k < 0 → climb l (ancF l n k).length k < 0
  | 0, _, h => h
  | n + 1, k, h => by
    have h : (if k < 0 then k else climb l n (parI l k)) < 0 := h
    show climb l (if k < 0 then [] else k :: ancF l n (parI l k)).length k < 0
    by_cases q : k < 0
    · rw [if_pos q]; exact q
    · rw [if_neg q] at h ⊢
      show (if k < 0 then k else climb l (ancF l n (parI l k)).length (parI l k)) < 0
      rw [if_neg q]
      exact climb_len l n _ h
/-- A way up that ends, ends in time. -/
theorem ends_of {l : List Nd} (hp : ∀ i, i < l.length → (nd l i).parent < l.length) {k : Int} (hk : k < l.length) {n : Nat} (h : climb l n k < 0) : Ends l k := by
  have h1 := nodup_len l.length _ (anc_nodup l n k h) (anc_range l hp n k hk)
  have h2 := climb_more l (l.length + 1 - (ancF l n k).length) (climb_len l n k h)
  rw [show (ancF l n k).length + (l.length + 1 - (ancF l n k).length) = l.length + 1 by omega] at h2
  exact h2
end Go.Proofs.YtnojgejcmaajmaaGreatDoor

namespace Go.Proofs.YtnojgejcmaajmaaGreatDoor
open Go.RowKit
theorem cnt_pos {l : List Int} {x : Int} : x ∈ l ↔ 0 < cntI l x := List.count_pos_iff.symm
end Go.Proofs.YtnojgejcmaajmaaGreatDoor

namespace Go.Proofs.YtnojgejcmaajmaaGreatDoor
open Go.RowKit
theorem kids_nodup {l : List Nd} (h : Right l) {p : Nat} (hp : p < l.length) : (nd l p).kids.Nodup := by
  rw [List.nodup_iff_count]
  intro x
  by_cases m : x ∈ (nd l p).kids
  · have hk := h.kid p hp x m
    have hx : (nd l x.toNat).parent = (p : Int) := hk.2.2
    have := h.cnt x.toNat (by omega) (by rw [hx]; omega)
    rw [hx, Int.toNat_natCast, Int.toNat_of_nonneg hk.1] at this
    unfold cntI at this
    omega
  · rw [List.count_eq_zero.2 m]; omega
/-- Attributes: names formed so, each once; values not too long. -/
structure AttrsOk (ax : List (ByteArray × ByteArray)) : Prop where
  each : ∀ a ∈ ax, nameOk a.1 = true ∧ a.2.size ≤ 4000
  once : (ax.map (·.1)).Nodup
theorem find_first {ax : List (ByteArray × ByteArray)} {i : Nat} (hi : i < ax.length) : findA ax ax[i].1 = some i ↔ ∀ j (h : j < i), ¬ ax[j].1 = ax[i].1 := by
  unfold findA
  rw [List.findIdx?_eq_some_iff_getElem]
  constructor
  · rintro ⟨_, _, h⟩ j hj
    have := h j hj
    simpa using this
  · intro h
    exact ⟨hi, by simp, fun j hj => by simpa using h j hj⟩
theorem attrs_is (ax : List (ByteArray × ByteArray)) : (List.range ax.length).all (attrOk ax) = true ↔ AttrsOk ax := by
  have at1 : ∀ i (hi : i < ax.length), attrOk ax i = true ↔ nameOk ax[i].1 = true ∧ ax[i].2.size ≤ 4000 ∧ ∀ j (h : j < i), ¬ ax[j].1 = ax[i].1 := by
    intro i hi
    unfold attrOk
    rw [show ax.getD i at0 = ax[i] by simp [List.getD, hi], Bool.and_eq_true, Bool.and_eq_true, decide_eq_true_eq, beq_iff_eq, find_first hi]
  rw [List.all_eq_true]
  constructor
  · intro h
    refine ⟨fun a ha => ?_, ?_⟩
    · obtain ⟨i, hi, rfl⟩ := List.getElem_of_mem ha
      have := (at1 i hi).1 (h i (List.mem_range.2 hi))
      exact ⟨this.1, this.2.1⟩
    · rw [List.nodup_iff_pairwise_ne, List.pairwise_iff_getElem]
      intro i j h1 h2 hij
      rw [List.getElem_map, List.getElem_map]
      rw [List.length_map] at h1 h2
      exact ((at1 j h2).1 (h j (List.mem_range.2 h2))).2.2 i hij
  · intro h i hi
    have hi := List.mem_range.1 hi
    refine (at1 i hi).2 ⟨(h.each _ (List.getElem_mem _)).1, (h.each _ (List.getElem_mem _)).2, fun j hj e => ?_⟩
    have := h.once
    rw [List.nodup_iff_pairwise_ne, List.pairwise_iff_getElem] at this
    have := this j i (by rw [List.length_map]; omega) (by rw [List.length_map]; omega) hj
    rw [List.getElem_map, List.getElem_map] at this
    exact this e
end Go.Proofs.YtnojgejcmaajmaaGreatDoor

namespace Go.Proofs.YtnojgejcmaajmaaGreatDoor
open Go.RowKit
/-- In order, with a list of those that are to be gone to. -/
def orderF (l : List Nd) : Nat → List Int → List Int
  | 0, _ => []
  | _ + 1, [] => []
  | n + 1, k :: st => k :: orderF l n ((nd l k.toNat).kids ++ st)
def orderP (l : List Nd) (id : Int) : List Int := orderF l (l.length + 1) [id]
theorem anc_self {l : List Nd} (h : Right l) {k : Int} (h0 : 0 ≤ k) (hk : k < l.length) : k ∈ anc l k := by
  rw [anc_up (h.ende hk) (by omega)]; exact List.mem_cons_self ..
theorem anc_hgt {l : List Nd} (h : Right l) : ∀ (d : Nat) {k x : Int}, k < l.length → hgt l k ≤ d → x ∈ anc l k → hgt l x ≤ hgt l k
  | 0, k, x, hk, hd, hm => by
    by_cases e : k < 0
    · rw [anc_neg e] at hm; cases hm
    · have := hgt_up (h.ende hk) e; omega
  | d + 1, k, x, hk, hd, hm => by
    by_cases e : k < 0
    · rw [anc_neg e] at hm; cases hm
    · rw [anc_up (h.ende hk) e] at hm
      rcases List.mem_cons.1 hm with q | q
      · rw [q]; exact Nat.le_refl _
      · have h1 := hgt_up (h.ende hk) e
        have h2 := anc_hgt h d (h.up e hk).2 (by omega) q
        omega
/-- What is gone to so far, what is to be gone to. -/
structure Inv (l : List Nd) (id : Int) (out st : List Int) : Prop where
  once : (out ++ st).Nodup
  rng : ∀ x ∈ out ++ st, 0 ≤ x ∧ x < (l.length : Int) ∧ id ∈ anc l x
  par : ∀ x ∈ out ++ st, x = id ∨ parI l x ∈ out
  kid : ∀ x ∈ out, ∀ c ∈ (nd l x.toNat).kids, c ∈ out ++ st
  first : ∀ X k Y, out = X ++ k :: Y → k = id ∨ parI l k ∈ X
  has : id ∈ out ++ st
theorem inv_zero {l : List Nd} (h : Right l) {id : Int} (h0 : 0 ≤ id) (hi : id < l.length) : Inv l id [] [id] := by
  refine ⟨by simp, fun x hx => ?_, fun x hx => .inl (by simpa using hx), (fun x hx => by cases hx), fun X k Y e => ?_, by simp⟩
  · have : x = id := by simpa using hx
    rw [this]; exact ⟨h0, hi, anc_self h h0 hi⟩
  · cases X <;> cases e
theorem inv_step {l : List Nd} (h : Right l) {id : Int} {out st : List Int} {k : Int} (v : Inv l id out (k :: st)) : Inv l id (out ++ [k]) ((nd l k.toNat).kids ++ st) := by
  have hk := v.rng k (by simp)
  have hkl : k.toNat < l.length := by omega
  have kds : ∀ c ∈ (nd l k.toNat).kids, 0 ≤ c ∧ c < (l.length : Int) ∧ parI l c = k := by
    intro c hc
    have := h.kid k.toNat hkl c hc
    rw [Int.toNat_of_nonneg hk.1] at this
    exact this
  have hno := v.once
  have hkout : k ∉ out := fun m => (List.nodup_append.1 hno).2.2 k m k (List.mem_cons_self ..) rfl
  have fresh : ∀ c ∈ (nd l k.toNat).kids, c ∉ out ++ k :: st := by
    intro c hc hm
    have hcp := kds c hc
    rcases v.par c hm with e | e
    · subst e
      have h1 := hgt_up (h.ende hcp.2.1) (by omega)
      rw [hcp.2.2] at h1
      have h2 := anc_hgt h _ hk.2.1 (Nat.le_refl _) hk.2.2
      omega
    · rw [hcp.2.2] at e
      exact hkout e
  have mem : ∀ x, x ∈ (out ++ [k]) ++ ((nd l k.toNat).kids ++ st) ↔ x ∈ out ++ k :: st ∨ x ∈ (nd l k.toNat).kids := by
    intro x
    simp only [List.mem_append, List.mem_cons, List.not_mem_nil, or_false]
    constructor
    · rintro ((a | a) | a | a)
      · exact .inl (.inl a)
      · exact .inl (.inr (.inl a))
      · exact .inr a
      · exact .inl (.inr (.inr a))
    · rintro ((a | a | a) | a)
      · exact .inl (.inl a)
      · exact .inl (.inr a)
      · exact .inr (.inr a)
      · exact .inr (.inl a)
  refine ⟨?_, fun x hx => ?_, fun x hx => ?_, fun x hx c hc => ?_, fun X y Y e => ?_, ?_⟩
  · have h1 : ((out ++ [k]) ++ st).Nodup := by rw [List.append_assoc]; exact hno
    have h2 := kids_nodup h hkl
    rw [List.nodup_append] at h1 ⊢
    refine ⟨h1.1, ?_, ?_⟩
    · rw [List.nodup_append]
      refine ⟨h2, h1.2.1, fun a ha b hb e => ?_⟩
      subst e
      exact fresh a ha (List.mem_append.2 (.inr (List.mem_cons_of_mem _ hb)))
    · intro a ha b hb e
      subst e
      rcases List.mem_append.1 hb with q | q
      · refine fresh a q ?_
        rcases List.mem_append.1 ha with r | r
        · exact List.mem_append.2 (.inl r)
        · have : a = k := by simpa using r
          rw [this]; exact List.mem_append.2 (.inr (List.mem_cons_self ..))
      · exact h1.2.2 a ha a q rfl
  · rcases (mem x).1 hx with q | q
    · exact v.rng x q
    · have := kds x q
      refine ⟨this.1, this.2.1, ?_⟩
      rw [anc_up (h.ende this.2.1) (by omega), this.2.2]
      exact List.mem_cons_of_mem _ hk.2.2
  · rcases (mem x).1 hx with q | q
    · rcases v.par x q with r | r
      · exact .inl r
      · exact .inr (List.mem_append.2 (.inl r))
    · right
      rw [(kds x q).2.2]; simp
  · rcases List.mem_append.1 hx with q | q
    · exact (mem c).2 (.inl (v.kid x q c hc))
    · have : x = k := by simpa using q
      subst this
      exact (mem c).2 (.inr hc)
  · rcases List.append_eq_append_iff.1 e with ⟨a, e1, e2⟩ | ⟨a, e1, e2⟩
    · -- X = out ++ a, [k] = a ++ y :: Y
      cases a with
      | nil =>
        have e3 : k = y := by
          have := congrArg List.head? e2
          simpa using this
        subst e3
        rcases v.par k (by simp) with r | r
        · exact .inl r
        · right; rw [e1]; simpa using r
      | cons z t =>
        have := congrArg List.length e2
        simp at this
    · -- out = X ++ a, y :: Y = a ++ [k]
      cases a with
      | nil =>
        have e3 : y = k := by
          have := congrArg List.head? e2
          simpa using this
        subst e3
        rcases v.par y (by simp) with r | r
        · exact .inl r
        · right; rw [e1] at r; simpa using r
      | cons z t =>
        have e3 : y = z := by
          have := congrArg List.head? e2
          simpa using this
        subst e3
        exact v.first X y t e1
  · exact (mem id).2 (.inl v.has)
theorem inv_done {l : List Nd} (h : Right l) {id : Int} : ∀ (n : Nat) (out st : List Int), Inv l id out st → l.length + 1 ≤ n + out.length → Inv l id (out ++ orderF l n st) []
  | 0, out, st, v, hn => by
    have h1 := nodup_len l.length out (List.nodup_append.1 v.once).1 (fun x hx => by
      have := v.rng x (List.mem_append.2 (.inl hx))
      exact ⟨this.1, this.2.1⟩)
    omega
  | n + 1, out, [], v, _ => by
    show Inv l id (out ++ []) []
    rw [List.append_nil]; exact v
  | n + 1, out, k :: st, v, hn => by
    have := inv_done h n (out ++ [k]) ((nd l k.toNat).kids ++ st) (inv_step h v) (by simp; omega)
    rw [List.append_assoc] at this
    exact this
theorem order_inv {l : List Nd} (h : Right l) {id : Int} (h0 : 0 ≤ id) (hi : id < l.length) : Inv l id (orderP l id) [] := by
  have := inv_done h (l.length + 1) [] [id] (inv_zero h h0 hi) (by simp)
  exact this
/-- Just what is within it, each once, parents first. -/
theorem order_mem {l : List Nd} (h : Right l) {id : Int} (h0 : 0 ≤ id) (hi : id < l.length) (x : Int) : x ∈ orderP l id ↔ 0 ≤ x ∧ x < (l.length : Int) ∧ id ∈ anc l x := by
  have v := order_inv h h0 hi
  constructor
  · intro hx
    exact v.rng x (by rw [List.append_nil]; exact hx)
  · rintro ⟨x0, x1, x2⟩
    have key : ∀ (d : Nat) (x : Int), 0 ≤ x → x < (l.length : Int) → hgt l x ≤ d → id ∈ anc l x → x ∈ orderP l id := by
      intro d
      induction d with
      | zero =>
        intro x a b c e
        have := hgt_up (h.ende b) (by omega)
        omega
      | succ d ih =>
        intro x a b c e
        have hu := hgt_up (h.ende b) (by omega)
        rw [anc_up (h.ende b) (by omega)] at e
        rcases List.mem_cons.1 e with q | q
        · have := v.has
          rw [List.append_nil] at this
          rw [← q]; exact this
        · have hp := h.up (show ¬ x < 0 by omega) b
          have hp0 : 0 ≤ parI l x := by
            rcases Int.lt_or_le (parI l x) 0 with r | r
            · rw [anc_neg r] at q; cases q
            · exact r
          have hin := ih (parI l x) hp0 hp.2 (by omega) q
          have hcn := h.cnt x.toNat (by omega) (by show ¬ parI l x < 0; omega)
          rw [Int.toNat_of_nonneg a] at hcn
          have hkid : x ∈ (nd l (parI l x).toNat).kids := cnt_pos.2 (by
            have : cntI (nd l (parI l x).toNat).kids x = 1 := hcn
            omega)
          have := v.kid (parI l x) hin x hkid
          rw [List.append_nil] at this
          exact this
    exact key _ x x0 x1 (Nat.le_refl _) x2
theorem order_nodup {l : List Nd} (h : Right l) {id : Int} (h0 : 0 ≤ id) (hi : id < l.length) : (orderP l id).Nodup := by
  have := (order_inv h h0 hi).once
  rw [List.append_nil] at this
  exact this
end Go.Proofs.YtnojgejcmaajmaaGreatDoor

namespace Go.Proofs.YtnojgejcmaajmaaGreatDoor
open Go.RowKit
set_option maxRecDepth 100000
theorem kids_few {l : List Nd} (h : Right l) {i : Nat} (hi : i < l.length) : (nd l i).kids.length ≤ 400 := by
  have h1 := nodup_len l.length _ (kids_nodup h hi) (fun x hx => by
    have := h.kid i hi x hx
    exact ⟨this.1, this.2.1⟩)
  have := h.len
  omega
end Go.Proofs.YtnojgejcmaajmaaGreatDoor

namespace Go.Proofs.YtnojgejcmaajmaaGreatDoor
open Go.RowKit
def tyL : List (List UInt8) := [[], [104, 105, 100, 100, 101, 110], [116, 101, 120, 116], [115, 101, 97, 114, 99, 104], [116, 101, 108], [117, 114, 108], [101, 109, 97, 105, 108], [112, 97, 115, 115, 119, 111, 114, 100], [100, 97, 116, 101], [109, 111, 110, 116, 104], [119, 101, 101, 107], [116, 105, 109, 101], [100, 97, 116, 101, 116, 105, 109, 101, 45, 108, 111, 99, 97, 108], [110, 117, 109, 98, 101, 114], [114, 97, 110, 103, 101], [99, 111, 108, 111, 114], [99, 104, 101, 99, 107, 98, 111, 120], [114, 97, 100, 105, 111], [102, 105, 108, 101], [115, 117, 98, 109, 105, 116], [105, 109, 97, 103, 101], [114, 101, 115, 101, 116], [98, 117, 116, 116, 111, 110], [115, 101, 108, 101, 99, 116, 45, 111, 110, 101], [116, 101, 120, 116, 97, 114, 101, 97], [115, 117, 98, 109, 105, 116], [114, 101, 115, 101, 116], [98, 117, 116, 116, 111, 110], [111, 117, 116, 112, 117, 116], [102, 105, 101, 108, 100, 115, 101, 116]]
/-- The type of a kind. -/
def typeN (k : Nat) : ByteArray := ⟨(tyL.getD k []).toArray⟩
def lastL : List (List UInt8) := [[111, 117, 116, 112, 117, 116], [102, 105, 101, 108, 100, 115, 101, 116], [102, 111, 114, 109], [108, 97, 98, 101, 108], [111, 112, 116, 105, 111, 110], [111, 112, 116, 103, 114, 111, 117, 112], [108, 101, 103, 101, 110, 100], [100, 97, 116, 97, 108, 105, 115, 116]]
def lastN (k : Nat) : ByteArray := ⟨(lastL.getD k []).toArray⟩
/-- The first kind of a type, of those from one to another. -/
def seekR (t : ByteArray) (f l : Nat) : Nat → Nat → Option Nat
  | 0, _ => none
  | n + 1, k => if (Nat.ble f k && (Nat.ble k l && decide (typeN k = t))) = true then some k else seekR t f l n (k + 1)
def seekL (t : ByteArray) : Nat → Nat → Option Nat
  | 0, _ => none
  | n + 1, k => if lastN k = t then some k else seekL t n (k + 1)
def kInt (r : Option Nat) (o : Int) : Int := match r with
  | none => o
  | some k => (k : Int)
theorem ret_str {a b : ByteArray} (h : a = b) : Ending.returned (.string a) = .returned (.string b) := by rw [h]
theorem lit_no {a : ByteArray} {l : List UInt8} (h : ¬ a = ⟨l.toArray⟩) : (a.toList == l) = false := by
  rw [beq_eq_false_iff_ne, ByteArray.toList_eq]
  intro e
  apply h
  apply ByteArray.ext
  exact Array.ext' e
theorem lit_yes {a : ByteArray} {l : List UInt8} (h : a = ⟨l.toArray⟩) : (a.toList == l) = true := by
  rw [h, beq_iff_eq, ByteArray.toList_eq]
end Go.Proofs.YtnojgejcmaajmaaGreatDoor

namespace Go.Proofs.YtnojgejcmaajmaaGreatDoor
open Go.RowKit
def btwB (k a b : Int) : Bool := decide (a ≤ k ∧ k ≤ b)
def fireB (k : Int) : Bool := decide (k = 19 ∨ k = 20 ∨ k = 25)
end Go.Proofs.YtnojgejcmaajmaaGreatDoor

namespace Go.Proofs.YtnojgejcmaajmaaGreatDoor
open Go.RowKit
/-- The types of bytes, of slices of bytes and of texts. -/
structure ByteTypes (P : Program) (t e st : TypeId) : Prop where
  sl : P.underlying t = some (.slice e)
  el : P.underlying e = some (.int .u8)
  str : P.underlying st = some .string
  info : (P.info? e).map (fun i => (i.zero, i.size, i.bytes)) = some (some (.int .u8 0), 1, 1)
/-- A byte, as a cell holds it. -/
def cellB (c : UInt8) : Value := .int .u8 (c.toNat : Int)
def txt (l : List UInt8) : ByteArray := ⟨l.toArray⟩
/-- The value v is a slice of the call's own (its block from 'base' on) that holds the bytes l. -/
def OwnsB (e : TypeId) (base : Nat) (w : World) (v : Value) (l : List UInt8) : Prop := w.ownsRow base e 1 v l.length (l.map cellB)
theorem OwnsB.nil (e : TypeId) (base : Nat) (w : World) : OwnsB e base w (.slice none 0 0) [] := World.ownsRow_nil w base e 1
theorem OwnsB.below {e : TypeId} {base : Nat} {w w' : World} {v : Value} {l : List UInt8} (h : OwnsB e base w v l) (hb : Below w.heap.size w w') : OwnsB e base w' v l := by
  obtain ⟨h1, h2⟩ := h
  refine ⟨h1, ?_⟩
  rcases h2 with h2 | ⟨g, cap, cur, hv, hg, hh, r⟩
  · exact Or.inl h2
  · refine Or.inr ⟨g, cap, cur, hv, hg, ?_, r⟩
    rw [hb.block g ?_]; exact hh
    rcases Nat.lt_or_ge g w.heap.size with h' | h'
    · exact h'
    · simp [Array.getElem?_eq_none h'] at hh
theorem OwnsB.mono {e : TypeId} {base base' : Nat} {w : World} {v : Value} {l : List UInt8} (h : OwnsB e base w v l) (hb : base' ≤ base) : OwnsB e base' w v l := by
  obtain ⟨h1, h2⟩ := h
  refine ⟨h1, ?_⟩
  rcases h2 with h2 | ⟨g, cap, cur, hv, hg, r⟩
  · exact Or.inl h2
  · exact Or.inr ⟨g, cap, cur, hv, by omega, r⟩
theorem strOfNums_bytes (l : List UInt8) : strOfNums (l.map fun c => (c.toNat : Int)) = txt l := by
  unfold strOfNums txt
  rw [List.map_map]
  have : ((fun n : Int => UInt8.ofNat n.toNat) ∘ fun c : UInt8 => (c.toNat : Int)) = id := by
    funext c; simp
  rw [this, List.map_id]
/-- 'string(b)' of such a slice. -/
theorem OwnsB.text {P : Program} {t e st : TypeId} (bt : ByteTypes P t e st) {base : Nat} {w : World} {v : Value} {l : List UInt8} (h : OwnsB e base w v l) :
    (convert t st v).run P w = .ok (.string (txt l)) w := by
  rcases h.2 with ⟨rfl, hn⟩ | ⟨g, cap, cur, rfl, hg, hh, r⟩
  · have : l = [] := List.eq_nil_of_length_eq_zero hn
    subst this
    exact run_convert_bytes_nil (P := P) w t e bt.sl bt.el 0 0 st bt.str
  · have hl : (l.map fun c => (c.toNat : Int)).length = l.length := by simp
    have := run_convert_bytes_arg (P := P) w t e bt.sl bt.el g 0 l.length cap _ hl (fun i hi => by
      rw [Nat.zero_add, World.ownsRow.cellAt h i (by omega)]
      simp [cellB, hi]) st bt.str
    rw [this, strOfNums_bytes]
theorem grown_below {e : TypeId} {base : Nat} {w w' : World} {v : Value} {n : Nat} {xs : List Value} (h : w.ownsRow base e 1 v n xs) (hg : w.grownBy w' v.ownBlock) (hB : base ≤ w.heap.size) : Below base w w' :=
  (Below.refl base w).grown hg hB fun k hk => (h.lt k hk).1
/-- A text, as a cell holds it. -/
def cellT (l : List UInt8) : Value := .string (txt l)
/-- The value v is a slice of the call's own (its block from 'base' on) that holds the texts ws. -/
def OwnsT (e : TypeId) (base : Nat) (w : World) (v : Value) (ws : List (List UInt8)) : Prop := w.ownsRow base e 1 v ws.length (ws.map cellT)
theorem OwnsT.nil (e : TypeId) (base : Nat) (w : World) : OwnsT e base w (.slice none 0 0) [] := World.ownsRow_nil w base e 1
theorem ownsRow_below {e : TypeId} {base n : Nat} {w w' : World} {v : Value} {xs : List Value} (h : w.ownsRow base e 1 v n xs) (hb : Below w.heap.size w w') : w'.ownsRow base e 1 v n xs := by
  obtain ⟨h1, h2⟩ := h
  refine ⟨h1, ?_⟩
  rcases h2 with h2 | ⟨g, cap, cur, hv, hg, hh, r⟩
  · exact Or.inl h2
  · refine Or.inr ⟨g, cap, cur, hv, hg, ?_, r⟩
    rw [hb.block g ?_]; exact hh
    rcases Nat.lt_or_ge g w.heap.size with h' | h'
    · exact h'
    · simp [Array.getElem?_eq_none h'] at hh
theorem OwnsT.below {e : TypeId} {base : Nat} {w w' : World} {v : Value} {ws : List (List UInt8)} (h : OwnsT e base w v ws) (hb : Below w.heap.size w w') : OwnsT e base w' v ws := ownsRow_below h hb
/-- The world behind '[]byte(s)'. -/
theorem bytes_below (w : World) (e : TypeId) (s : ByteArray) : Below w.heap.size w (Lib.bytesWorld w e s) :=
  ⟨rfl, rfl, rfl, by rw [Lib.bytesWorld_size]; omega, fun k hk => Lib.bytesWorld_at_old w e s k hk⟩
theorem bytes_free (w : World) (e : TypeId) (s : ByteArray) (j : Nat) (hj : j < s.size) : (Lib.bytesWorld w e s).frozen? ⟨w.heap.size, j, none⟩ = false := by
  have hs : j < (Lib.bytesCells w e s).size := by
    simp [Lib.bytesCells]; omega
  simp [World.frozen?, Lib.bytesWorld_at_new]
  omega
end Go.Proofs.YtnojgejcmaajmaaGreatDoor

namespace Go.Proofs.YtnojgejcmaajmaaGreatDoor
open Go.RowKit
/-- The small letter of a byte. -/
def lowB (c : UInt8) : UInt8 := if 65 ≤ c.toNat ∧ c.toNat ≤ 90 then c + 32 else c
def lowL (l : List UInt8) : List UInt8 := l.map lowB
def lowS (s : ByteArray) : ByteArray := txt (lowL s.data.toList)
def byteAt (s : ByteArray) (j : Nat) : UInt8 := s.data.toList.getD j 0
theorem byteAt_eq (s : ByteArray) (j : Nat) (h : j < s.size) : s[j] = byteAt s j := by
  unfold byteAt; simp [List.getD, h]; rfl
theorem byteAt_take (s : ByteArray) (k : Nat) (h : k < s.size) : s.data.toList.take (k + 1) = s.data.toList.take k ++ [byteAt s k] := by
  rw [List.take_succ_eq_append_getElem (by simpa using h), ← byteAt_eq s k h]; rfl
theorem lowB_yes (c : UInt8) (h1 : 65 ≤ c.toNat) (h2 : c.toNat ≤ 90) : (lowB c).toNat = c.toNat + 32 := by
  unfold lowB; rw [if_pos ⟨h1, h2⟩]; simp; omega
theorem lowB_no (c : UInt8) (h : ¬ (65 ≤ c.toNat ∧ c.toNat ≤ 90)) : lowB c = c := by
  unfold lowB; rw [if_neg h]
end Go.Proofs.YtnojgejcmaajmaaGreatDoor

namespace Go.Proofs.YtnojgejcmaajmaaGreatDoor
open Go.RowKit
def tyS : ByteArray := ⟨#[116, 121, 112, 101]⟩
/-- The text that tells the type, in small letters. -/
def tyOf (ax : List (ByteArray × ByteArray)) : Option ByteArray := (findA ax tyS).map fun i => lowS (ax.getD i at0).2
def byT (o : Option ByteArray) (f l : Nat) (z : Int) : Int := match o with
  | none => z
  | some t => kInt (seekR t f l 30 0) z
def kOf (name : ByteArray) (o : Option ByteArray) : Int :=
  if name = ⟨#[105, 110, 112, 117, 116]⟩ then byT o 1 22 2 else if name = ⟨#[115, 101, 108, 101, 99, 116]⟩ then 23 else if name = ⟨#[116, 101, 120, 116, 97, 114, 101, 97]⟩ then 24 else if name = ⟨#[98, 117, 116, 116, 111, 110]⟩ then byT o 25 27 25 else
  match seekL name 8 0 with
  | none => 0
  | some i => 28 + (i : Int)
theorem seek_step (t : ByteArray) (f l k : Nat) (h : k < 30) : seekR t f l (30 - k) k = if (Nat.ble f k && (Nat.ble k l && decide (typeN k = t))) = true then some k else seekR t f l (30 - (k + 1)) (k + 1) := by
  rw [show 30 - k = (30 - (k + 1)) + 1 by omega]; rfl
theorem seekL_step (t : ByteArray) (k : Nat) (h : k < 8) : seekL t (8 - k) k = if lastN k = t then some k else seekL t (8 - (k + 1)) (k + 1) := by
  rw [show 8 - k = (8 - (k + 1)) + 1 by omega]; rfl
theorem btw_nat (k f l : Nat) : btwB (k : Int) (f : Int) (l : Int) = (Nat.ble f k && Nat.ble k l) := by
  unfold btwB
  rw [Bool.eq_iff_iff, decide_eq_true_eq, Bool.and_eq_true, Nat.ble_eq, Nat.ble_eq]
  omega
theorem seek_hit {t : ByteArray} {f l k : Nat} {A : Option Nat} (h : k < 30) (hs : seekR t f l (30 - k) k = A) (hb : btwB (k : Int) f l = true) (he : typeN k = t) : A = some k := by
  rw [btw_nat, Bool.and_eq_true] at hb
  rw [← hs, seek_step t f l k h, hb.1, hb.2, decide_eq_true he]; rfl
theorem seek_miss {t : ByteArray} {f l k : Nat} {A : Option Nat} (h : k < 30) (hs : seekR t f l (30 - k) k = A) (hb : btwB (k : Int) f l = false ∨ ¬ typeN k = t) : seekR t f l (30 - (k + 1)) (k + 1) = A := by
  rw [← hs, seek_step t f l k h, if_neg]
  rw [Bool.and_eq_true, Bool.and_eq_true, decide_eq_true_eq]
  rintro ⟨q1, q2, q3⟩
  rcases hb with r | r
  · rw [btw_nat, q1, q2] at r; cases r
  · exact r q3
theorem lit_dec (a : ByteArray) (l : List UInt8) : (a.toList == l) = decide (a = ⟨l.toArray⟩) := by
  by_cases h : a = ⟨l.toArray⟩
  · rw [decide_eq_true h, lit_yes h]
  · rw [decide_eq_false h, lit_no h]
end Go.Proofs.YtnojgejcmaajmaaGreatDoor

namespace Go.Proofs.YtnojgejcmaajmaaGreatDoor
open Go.RowKit
/-- The text of the first attribute of a name. -/
def fndS (ax : List (ByteArray × ByteArray)) (name : ByteArray) : ByteArray := match findA ax name with
  | none => ⟨#[]⟩
  | some i => (ax.getD i at0).2
theorem fnd_hit {ax : List (ByteArray × ByteArray)} {n : ByteArray} {k : Nat} (hk : k < ax.length) (h : findA ax n = some k) : fndS ax n = ax[k].2 ∧ (findA ax n).isSome = true := by
  unfold fndS
  rw [h]
  exact ⟨by show (ax.getD k at0).2 = _; rw [show ax.getD k at0 = ax[k] by simp [List.getD, hk]], rfl⟩
theorem fnd_miss {ax : List (ByteArray × ByteArray)} {n : ByteArray} (h : findA ax n = none) : fndS ax n = ⟨#[]⟩ ∧ (findA ax n).isSome = false := by
  unfold fndS
  rw [h]
  exact ⟨rfl, rfl⟩
end Go.Proofs.YtnojgejcmaajmaaGreatDoor

namespace Go.Proofs.YtnojgejcmaajmaaGreatDoor
open Go.RowKit
/-- One of a form's entries. -/
structure En where
  name : ByteArray
  val : ByteArray
  file : Bool
  fname : ByteArray
  typ : ByteArray
/-- What a control has. -/
structure Ct where
  val : ByteArray
  dirty : Bool
  typed : Bool
  chk : Bool
  dchk : Bool
  mixed : Bool
  sel : Bool
  dsel : Bool
  custom : ByteArray
  files : List En
end Go.Proofs.YtnojgejcmaajmaaGreatDoor

namespace Go.Proofs.YtnojgejcmaajmaaGreatDoor
open Go.RowKit
/-- A node's kind; is a node there, of a kind, in a right document? Has it an attribute? -/
def kN (n : Nd) : Int := kOf n.name (tyOf n.attrs)
def isK (l : List Nd) (id k : Int) : Bool := hasN l id && decide (kN (nd l id.toNat) = k)
def hasA (n : Nd) (s : ByteArray) : Bool := (findA n.attrs s).isSome
def nmI (l : List Nd) (i : Int) : ByteArray := (nd l i.toNat).name
end Go.Proofs.YtnojgejcmaajmaaGreatDoor

namespace Go.Proofs.YtnojgejcmaajmaaGreatDoor
open Go.RowKit
def noName (n : ByteArray) : Bool := n.size == 0
end Go.Proofs.YtnojgejcmaajmaaGreatDoor

namespace Go.Proofs.YtnojgejcmaajmaaGreatDoor
open Go.RowKit
structure Bk (w : World) (n : Nat) (cs : List Value) (t : TypeId) : Prop where
  lies : w.heap[n]? = some (.cells cs.toArray t (0, 0))
theorem Bk.new (w : World) (cs : List Value) (t : TypeId) : Bk (w.alloc (.cells cs.toArray t)) w.heap.size cs t := ⟨by
  show (w.heap.push (.cells cs.toArray t (0, 0)))[w.heap.size]? = _
  simp⟩
theorem Bk.lt {w : World} {n : Nat} {cs : List Value} {t : TypeId} (h : Bk w n cs t) : n < w.heap.size := (Array.getElem?_eq_some_iff.1 h.lies).1
theorem Bk.cell {w : World} {n : Nat} {cs : List Value} {t : TypeId} (h : Bk w n cs t) (k : Nat) {u : Value} (hu : cs[k]? = some u) : w.cell? ⟨n, k, none⟩ = some u := by
  simp only [World.cell?, h.lies]
  simpa using hu
theorem Bk.free {w : World} {n : Nat} {cs : List Value} {t : TypeId} (h : Bk w n cs t) (k : Nat) : w.frozen? ⟨n, k, none⟩ = false := by
  simp only [World.frozen?, h.lies]; simp
theorem Bk.below {w w' : World} {n : Nat} {cs : List Value} {t : TypeId} (h : Bk w n cs t) (hb : Below w.heap.size w w') : Bk w' n cs t := ⟨(hb.block n h.lt).trans h.lies⟩
theorem Bk.set {w : World} {n : Nat} {cs : List Value} {t : TypeId} (h : Bk w n cs t) (k : Nat) (u : Value) : Bk (w.setCell ⟨n, k, none⟩ u) n (cs.set k u) t := by
  refine ⟨?_⟩
  simp only [World.setCell, Array.getElem?_modify, if_true, h.lies]
  simp
end Go.Proofs.YtnojgejcmaajmaaGreatDoor

namespace Go.Proofs.YtnojgejcmaajmaaGreatDoor
open Go.RowKit
/-- Cells behind a slice, anywhere. -/
def Raw (w : World) (size : Nat) (v : Value) (n : Nat) (xs : List Value) : Prop := xs.length = n * size ∧ ∃ p c, v = .slice p n c ∧ (n = 0 ∨ ∃ b o, p = some ⟨b, o, none⟩ ∧ ∀ j u, xs[j]? = some u → w.cell? ⟨b, o + j, none⟩ = some u)
theorem run_append_raw0 {P : Program} (w : World) (t ty : TypeId) (base : Nat) (e : TypeId) (i : TypeInfo) (z : Value) (size bytes : Nat) (ht : P.underlying t = some (.slice e)) (hi : P.info? e = some i) (hz : i.zero = some z)
    (hsize : i.size = size) (hby : i.bytes = bytes) (hzs : z.cells.size = size) (hsz : 0 < size)
    (v : Value) (n : Nat) (xs : List Value) (hown : w.ownsRow base e size v n xs) (sv : Value) (m : Nat) (news : List Value) (hraw : Raw w size sv m news) (h1 : ∀ u ∈ news, u.oneCell' = true)
    (h63 : n + m ≤ maxLen) (hbytes : (n + m) * bytes ≤ 140737488355328) (hbase : base ≤ w.heap.size) :
    ∃ v' w', (Builtin.append_ #[t, t] ty #[v, sv]).run P w = .ok v' w' ∧ w'.ownsRow base e size v' (n + m) (xs ++ news) ∧ w.grownBy w' v.ownBlock ∧ (v'.ownBlock = v.ownBlock ∨ v'.ownBlock = some w.heap.size) := by
  obtain ⟨hl, p, c, rfl, hraw⟩ := hraw
  by_cases hp : p = none
  · subst hp
    have hm : m = 0 := by
      rcases hraw with q | ⟨b, o, q, _⟩
      · exact q
      · cases q
    subst hm
    have hn : news = [] := List.eq_nil_of_length_eq_zero (by rw [hl]; omega)
    subst hn
    refine ⟨v, w, ?_, by rw [Nat.add_zero, List.append_nil]; exact hown, ⟨rfl, rfl, rfl, Nat.le_refl _, fun _ _ _ => rfl⟩, .inl rfl⟩
    rcases hown.2 with ⟨rfl, rfl⟩ | ⟨g, cap, cur, rfl, hb, hg, hn1, hn2, hn3, hn4⟩
    · simp [Builtin.append_, run_underlying ht, sizeOf, typeInfo, hi, Builtin.lenOf, run_firstCells_none]
    · simp [Builtin.append_, run_underlying ht, sizeOf, typeInfo, hi, Builtin.lenOf, run_firstCells_none, hn1, storeCells]
  · obtain ⟨a, rfl⟩ : ∃ a, p = some a := Option.ne_none_iff_exists'.1 hp
    have hnews : ∀ j u, news[j]? = some u → w.cell? (a.add j) = some u := by
      intro j u hu
      rcases hraw with q | ⟨b, o, q, h⟩
      · subst q
        have hn : news = [] := List.eq_nil_of_length_eq_zero (by rw [hl]; omega)
        rw [hn] at hu; cases hu
      · cases q
        have hadd : (⟨b, o, none⟩ : Addr).add j = ⟨b, o + j, none⟩ := by unfold Addr.add; split <;> simp_all
        rw [hadd]; exact h j u hu
    obtain ⟨v', w', h2, h3, h4, _, h5⟩ := run_append_own_at (P := P) w base t ty e i z size bytes ht hi hz hsize hby hzs hsz v n xs hown a m c news hl hnews h1 h63 hbytes hbase
    exact ⟨v', w', h2, h3, h4, h5⟩
theorem run_append_raw {P : Program} (w : World) (t ty : TypeId) (base : Nat) (e : TypeId) (i : TypeInfo) (z : Value) (size bytes : Nat) (ht : P.underlying t = some (.slice e)) (hi : P.info? e = some i) (hz : i.zero = some z)
    (hsize : i.size = size) (hby : i.bytes = bytes) (hzs : z.cells.size = size) (hsz : 0 < size)
    (v : Value) (n : Nat) (xs : List Value) (hown : w.ownsRow base e size v n xs) (sv : Value) (m : Nat) (news : List Value) (hraw : Raw w size sv m news) (h1 : ∀ u ∈ news, u.oneCell' = true)
    (h63 : n + m ≤ maxLen) (hbytes : (n + m) * bytes ≤ 140737488355328) (hbase : base ≤ w.heap.size) :
    ∃ q cp w', (Builtin.append_ #[t, t] ty #[v, sv]).run P w = .ok (.slice q (n + m) cp) w' ∧ w'.ownsRow base e size (.slice q (n + m) cp) (n + m) (xs ++ news) ∧ w.grownBy w' v.ownBlock ∧ ((Value.slice q (n + m) cp).ownBlock = v.ownBlock ∨ (Value.slice q (n + m) cp).ownBlock = some w.heap.size) := by
  have F : ∃ v' w', (Builtin.append_ #[t, t] ty #[v, sv]).run P w = .ok v' w' ∧ w'.ownsRow base e size v' (n + m) (xs ++ news) ∧ w.grownBy w' v.ownBlock ∧ (v'.ownBlock = v.ownBlock ∨ v'.ownBlock = some w.heap.size) := run_append_raw0 w t ty base e i z size bytes ht hi hz hsize hby hzs hsz v n xs hown sv m news hraw h1 h63 hbytes hbase
  obtain ⟨v', w', f1, f2, f3, f4⟩ := F
  rcases f2.2 with ⟨rfl, q⟩ | ⟨g, cap, cur, rfl, _⟩
  · exact ⟨none, 0, w', by rw [f1, q], by rw [q] at f2 ⊢; exact f2, f3, by rw [q]; exact f4⟩
  · exact ⟨_, cap, w', f1, f2, f3, f4⟩
theorem wp_append_raw {P : Program} {o : Oper} {a : Act} {w : World} {K : Act → World → Prop} {Q : Exit → Act → World → Prop} (s x : Operand) (t : TypeId)
    (ho : o.op = .call { callee := .builtin .append, args := #[s, x], argTypes := #[t, t] })
    (base : Nat) (e : TypeId) (i : TypeInfo) (z : Value) (size bytes : Nat) (ht : P.underlying t = some (.slice e)) (hi : P.info? e = some i) (hz : i.zero = some z)
    (hsize : i.size = size) (hby : i.bytes = bytes) (hzs : z.cells.size = size) (hsz : 0 < size)
    (v : Value) (n : Nat) (xs : List Value) (hs : a.eval s = v) (hown : w.ownsRow base e size v n xs)
    (sv : Value) (m : Nat) (news : List Value) (hx : a.eval x = sv) (hraw : Raw w size sv m news) (h1 : ∀ u ∈ news, u.oneCell' = true)
    (h63 : n + m ≤ maxLen) (hbytes : (n + m) * bytes ≤ 140737488355328) (hbase : base ≤ w.heap.size)
    (h : ∀ q cp w', w'.ownsRow base e size (.slice q (n + m) cp) (n + m) (xs ++ news) → w.grownBy w' v.ownBlock → ((Value.slice q (n + m) cp).ownBlock = v.ownBlock ∨ (Value.slice q (n + m) cp).ownBlock = some w.heap.size) → K (a.put o.dst (.slice q (n + m) cp)) w') : o.wp P a w K Q := by
  obtain ⟨q, cp, w', hr, h2, h3, h4⟩ := run_append_raw (P := P) w t o.type base e i z size bytes ht hi hz hsize hby hzs hsz v n xs hown sv m news hraw h1 h63 hbytes hbase
  unfold Oper.wp execOp
  simp only [ho, resolve, invoke, builtin, Sem.run_bind, Sem.run_pure, Result.andThen_ok, List.map_toArray, List.map_cons, List.map_nil, hs, hx, hr]
  exact h q cp w' h2 h3 h4
theorem wpList_append_raw {P : Program} {ops : Array Oper} {rest : List Oper} {o : Oper} {a : Act} {w : World} {Q : Exit → Act → World → Prop} (hgd : o.guard = none) (s x : Operand) (t : TypeId)
    (ho : o.op = .call { callee := .builtin .append, args := #[s, x], argTypes := #[t, t] })
    (base : Nat) (e : TypeId) (i : TypeInfo) (z : Value) (size bytes : Nat) (ht : P.underlying t = some (.slice e)) (hi : P.info? e = some i) (hz : i.zero = some z)
    (hsize : i.size = size) (hby : i.bytes = bytes) (hzs : z.cells.size = size) (hsz : 0 < size)
    (v : Value) (n : Nat) (xs : List Value) (hs : a.eval s = v) (hown : w.ownsRow base e size v n xs)
    (sv : Value) (m : Nat) (news : List Value) (hx : a.eval x = sv) (hraw : Raw w size sv m news) (h1 : ∀ u ∈ news, u.oneCell' = true)
    (h63 : n + m ≤ maxLen) (hbytes : (n + m) * bytes ≤ 140737488355328) (hbase : base ≤ w.heap.size)
    (h : ∀ q cp w', w'.ownsRow base e size (.slice q (n + m) cp) (n + m) (xs ++ news) → w.grownBy w' v.ownBlock → ((Value.slice q (n + m) cp).ownBlock = v.ownBlock ∨ (Value.slice q (n + m) cp).ownBlock = some w.heap.size) → wpList P ops Q rest (a.put o.dst (.slice q (n + m) cp)) w') : wpList P ops Q (o :: rest) a w :=
  wpList_plain hgd fun _ hK => wp_append_raw s x t ho base e i z size bytes ht hi hz hsize hby hzs hsz v n xs hs hown sv m news hx hraw h1 h63 hbytes hbase fun q cp w' h2 h3 h4 => hK _ _ (h q cp w' h2 h3 h4)
theorem owns_cell {w : World} {base : Nat} {e : TypeId} {size : Nat} {v : Value} {n : Nat} {xs : List Value} (h : w.ownsRow base e size v n xs) {g : Nat} (hg : v.ownBlock = some g) {j : Nat} {u : Value} (hu : xs[j]? = some u) : w.cell? ⟨g, j, none⟩ = some u := by
  have := h.cells hg j u hu
  rwa [show (⟨g, 0, none⟩ : Addr).add j = ⟨g, j, none⟩ by unfold Addr.add; split <;> simp_all] at this
theorem owns_at {w : World} {base : Nat} {e : TypeId} {size : Nat} {v : Value} {n : Nat} {xs : List Value} (h : w.ownsRow base e size v n xs) (hn : 0 < n) : ∃ g cap, v = .slice (some ⟨g, 0, none⟩) n cap ∧ v.ownBlock = some g ∧ base ≤ g ∧ g < w.heap.size ∧ n ≤ cap ∧ cap ≤ maxLen := by
  rcases h.2 with ⟨_, h0⟩ | ⟨g, cap, cur, rfl, hb, hg, h1, h2, _⟩
  · omega
  · exact ⟨g, cap, rfl, rfl, hb, (Array.getElem?_eq_some_iff.1 hg).1, h1, h2⟩
theorem owns_below {w w' : World} {base : Nat} {e : TypeId} {size : Nat} {v : Value} {n : Nat} {xs : List Value} (h : w.ownsRow base e size v n xs) (hb : Below w.heap.size w w') : w'.ownsRow base e size v n xs := by
  refine ⟨h.1, ?_⟩
  rcases h.2 with q | ⟨g, cap, cur, e1, h1, h2, h3⟩
  · exact .inl q
  · exact .inr ⟨g, cap, cur, e1, h1, (hb.block g (Array.getElem?_eq_some_iff.1 h2).1).trans h2, h3⟩
theorem Bk.raw {w : World} {n : Nat} {cs : List Value} {t : TypeId} (h : Bk w n cs t) (k size : Nat) (hl : cs.length = k * size) (c : Nat) : Raw w size (.slice (some ⟨n, 0, none⟩) k c) k cs :=
  ⟨hl, _, c, rfl, .inr ⟨n, 0, rfl, fun j u hu => by rw [Nat.zero_add]; exact h.cell j hu⟩⟩

end Go.Proofs.YtnojgejcmaajmaaGreatDoor
