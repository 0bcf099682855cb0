/- Documents as lists of nodes. Documents as they lie in the world. Attributes of an element found by a name. The document's Name, Find, count of layer 10. The document's alone of layer 10. -/
import Derived.Test.YtnojgejcmaajmaaDoorRows
import Derived.Test.YtnojgejcmaajmaaDoorJsd1
import Derived.Shelf.Abstract
import Derived.Deep.QuietTactic
import Derived.BigQuiet

namespace Go.Proofs.YtnojgejcmaajmaaDoor
open Go.RowKit
/-- A node: its name and text, its attributes, its parent's number, its children's. -/
structure Nd where
  name : ByteArray
  text : ByteArray
  attrs : List (ByteArray × ByteArray)
  parent : Int
  kids : List Int
def nd0 : Nd := ⟨⟨#[]⟩, ⟨#[]⟩, [], -1, []⟩
def at0 : ByteArray × ByteArray := (⟨#[]⟩, ⟨#[]⟩)
def smallC (c : UInt8) : Bool := decide (97 ≤ c.toNat ∧ c.toNat ≤ 122)
def otherC (c : UInt8) : Bool := decide (48 ≤ c.toNat ∧ c.toNat ≤ 57) || c == 45
/-- May a sign stand at a place of a name? -/
def nmAt (i : Nat) (c : UInt8) : Bool := smallC c || (!(i == 0) && otherC c)
def nmAll : Nat → List UInt8 → Bool
  | _, [] => true
  | i, c :: l => nmAt i c && nmAll (i + 1) l
def nameOk (s : ByteArray) : Bool := decide (0 < s.size ∧ s.size ≤ 20) && nmAll 0 s.data.toList
theorem nmAll_bad : ∀ {l : List UInt8} {n k : Nat} (hk : k < l.length), nmAt (n + k) l[k] = false → nmAll n l = false
  | [], _, _, hk, _ => by cases hk
  | c :: l, n, 0, _, h => by
    have h : nmAt n c = false := h
    show (nmAt n c && nmAll (n + 1) l) = false
    rw [h]; rfl
  | c :: l, n, k + 1, hk, h => by
    have := nmAll_bad (l := l) (n := n + 1) (k := k) (by simpa using hk) (by rw [show n + 1 + k = n + (k + 1) by omega]; exact h)
    show (nmAt n c && nmAll (n + 1) l) = false
    rw [this, Bool.and_false]
theorem nmAll_all : ∀ {l : List UInt8} {n : Nat}, (∀ k (hk : k < l.length), nmAt (n + k) l[k] = true) → nmAll n l = true
  | [], _, _ => rfl
  | c :: l, n, h => by
    have h0 : nmAt n c = true := h 0 (by simp)
    have := nmAll_all (l := l) (n := n + 1) (fun k hk => by rw [show n + 1 + k = n + (k + 1) by omega]; exact h (k + 1) (by simpa using hk))
    show (nmAt n c && nmAll (n + 1) l) = true
    rw [h0, this]; rfl
/-- The place of an attribute. -/
def findA (ax : List (ByteArray × ByteArray)) (n : ByteArray) : Option Nat := ax.findIdx? fun a => decide (a.1 = n)
def findV (o : Option Nat) : Int := match o with
  | none => -1
  | some k => (k : Int)
def cntI (l : List Int) (n : Int) : Nat := l.count n
/-- A node by itself. -/
def attrOk (ax : List (ByteArray × ByteArray)) (i : Nat) : Bool := nameOk (ax.getD i at0).1 && (decide ((ax.getD i at0).2.size ≤ 4000) && findA ax (ax.getD i at0).1 == some i)
def aloneB (n : Nd) : Bool :=
  if n.name.size = 0 then n.attrs.isEmpty && (n.kids.isEmpty && decide (n.text.size ≤ 4000))
  else nameOk n.name && (n.text.size == 0 && (decide (n.attrs.length ≤ 40) && (List.range n.attrs.length).all (attrOk n.attrs)))
def nd (l : List Nd) (i : Nat) : Nd := l.getD i nd0
def parI (l : List Nd) (i : Int) : Int := (nd l i.toNat).parent
/-- A node among the others. -/
def kidOk (l : List Nd) (i : Nat) (c : Int) : Bool := decide (0 ≤ c ∧ c < l.length) && parI l c == (i : Int)
def nodeOk (l : List Nd) (i : Nat) : Bool := aloneB (nd l i) && (decide (-1 ≤ (nd l i).parent ∧ (nd l i).parent < l.length) && ((decide ((nd l i).parent < 0) || cntI (nd l (nd l i).parent.toNat).kids i == 1) && (nd l i).kids.all (kidOk l i)))
/-- So many steps up. -/
def climb (l : List Nd) : Nat → Int → Int
  | 0, k => k
  | n + 1, k => if k < 0 then k else climb l n (parI l k)
def rightB (l : List Nd) : Bool := decide (1 ≤ l.length ∧ l.length ≤ 400) && (!((nd l 0).name.size == 0) && ((nd l 0).parent == -1 && ((List.range l.length).all (nodeOk l) && (List.range l.length).all fun i => decide (climb l (l.length + 1) i < 0))))
end Go.Proofs.YtnojgejcmaajmaaDoor

namespace Go.Proofs.YtnojgejcmaajmaaDoor
open Go.RowKit
/-- A row of numbers behind a slice. -/
def IntsV (w : World) (v : Value) (ks : List Int) : Prop := ∃ p c, v = .slice p ks.length c ∧ (ks = [] ∨ ∃ b o, p = some ⟨b, o, none⟩ ∧ ∀ i (h : i < ks.length), w.cell? ⟨b, o + i, none⟩ = some (.int .i64 ks[i]))
/-- A row of attributes behind a slice. -/
def AttrsV (w : World) (v : Value) (ax : List (ByteArray × ByteArray)) : Prop := ∃ p c, v = .slice p ax.length c ∧ (ax = [] ∨ ∃ b o, p = some ⟨b, o, none⟩ ∧ ∀ i (h : i < ax.length), w.cell? ⟨b, o + i * 2, none⟩ = some (.string ax[i].1) ∧ w.cell? ⟨b, o + i * 2 + 1, none⟩ = some (.string ax[i].2))
/-- A slice is no longer than its room. -/
def CapOK (v : Value) : Prop := ∀ p n c, v = .slice p n c → n ≤ c
/-- A node's five cells. -/
structure NodeAt (w : World) (b o : Nat) (n : Nd) (va vk : Value) : Prop where
  name : w.cell? ⟨b, o, none⟩ = some (.string n.name)
  text : w.cell? ⟨b, o + 1, none⟩ = some (.string n.text)
  attrs : w.cell? ⟨b, o + 2, none⟩ = some va
  parent : w.cell? ⟨b, o + 3, none⟩ = some (.int .i64 n.parent)
  kids : w.cell? ⟨b, o + 4, none⟩ = some vk
  at_ : AttrsV w va n.attrs
  ks : IntsV w vk n.kids
  cap : CapOK va
/-- A document behind a slice. -/
def NodesV (w : World) (v : Value) (l : List Nd) : Prop := ∃ p c, v = .slice p l.length c ∧ (l = [] ∨ ∃ b o, p = some ⟨b, o, none⟩ ∧ ∀ i (h : i < l.length), ∃ va vk, NodeAt w b (o + i * 5) l[i] va vk)
theorem cell_below {w w' : World} {p : Addr} {x : Value} (h : w.cell? p = some x) (hb : Below w.heap.size w w') : w'.cell? p = some x := (hb.cell (World.block_lt_of_cell? _ _ h)).trans h
theorem IntsV.below {w w' : World} {v : Value} {ks : List Int} (h : IntsV w v ks) (hb : Below w.heap.size w w') : IntsV w' v ks := by
  obtain ⟨p, c, e, h⟩ := h
  refine ⟨p, c, e, ?_⟩
  rcases h with h | ⟨b, o, e2, h⟩
  · exact .inl h
  · exact .inr ⟨b, o, e2, fun i hi => cell_below (h i hi) hb⟩
theorem AttrsV.below {w w' : World} {v : Value} {ax : List (ByteArray × ByteArray)} (h : AttrsV w v ax) (hb : Below w.heap.size w w') : AttrsV w' v ax := by
  obtain ⟨p, c, e, h⟩ := h
  refine ⟨p, c, e, ?_⟩
  rcases h with h | ⟨b, o, e2, h⟩
  · exact .inl h
  · exact .inr ⟨b, o, e2, fun i hi => ⟨cell_below (h i hi).1 hb, cell_below (h i hi).2 hb⟩⟩
theorem NodeAt.below {w w' : World} {b o : Nat} {n : Nd} {va vk : Value} (h : NodeAt w b o n va vk) (hb : Below w.heap.size w w') : NodeAt w' b o n va vk :=
  ⟨cell_below h.name hb, cell_below h.text hb, cell_below h.attrs hb, cell_below h.parent hb, cell_below h.kids hb, h.at_.below hb, h.ks.below hb, h.cap⟩
theorem NodesV.below {w w' : World} {v : Value} {l : List Nd} (h : NodesV w v l) (hb : Below w.heap.size w w') : NodesV w' v l := by
  obtain ⟨p, c, e, h⟩ := h
  refine ⟨p, c, e, ?_⟩
  rcases h with h | ⟨b, o, e2, h⟩
  · exact .inl h
  · refine .inr ⟨b, o, e2, fun i hi => ?_⟩
    obtain ⟨va, vk, hn⟩ := h i hi
    exact ⟨va, vk, hn.below hb⟩
end Go.Proofs.YtnojgejcmaajmaaDoor

namespace Go.Proofs.YtnojgejcmaajmaaDoor
open Go.RowKit
set_option maxRecDepth 100000
theorem find_hit {ax : List (ByteArray × ByteArray)} {n : ByteArray} {k : Nat} (hk : k < ax.length) (h : ∀ j (_ : j < ax.length), j < k → ¬ ax[j].1 = n) (e : ax[k].1 = n) : findA ax n = some k := by
  unfold findA
  rw [List.findIdx?_eq_some_iff_getElem]
  exact ⟨hk, decide_eq_true e, fun j hj => by have := h j (by omega) hj; simpa using this⟩
theorem find_none {ax : List (ByteArray × ByteArray)} {n : ByteArray} (h : ∀ j (_ : j < ax.length), ¬ ax[j].1 = n) : findA ax n = none := by
  unfold findA
  rw [List.findIdx?_eq_none_iff]
  intro a ha
  obtain ⟨j, hj, rfl⟩ := List.getElem_of_mem ha
  simpa using h j hj
theorem txt_beq (a b : ByteArray) : (a.toList == b.toList) = decide (a = b) := by
  rw [Bool.eq_iff_iff, beq_iff_eq, decide_eq_true_eq, ByteArray.toList_eq, ByteArray.toList_eq]
  constructor
  · intro h
    apply ByteArray.ext
    exact Array.ext' h
  · intro h; rw [h]
set_option maxHeartbeats 2000000 in
theorem refFind_any (v : Value) (ax : List (ByteArray × ByteArray)) (n : ByteArray) (w : World) (hv : AttrsV w v ax) (hl : ax.length ≤ 4398046511104) :
    Calls Tryd.prog 41 #[v, .string n] w fun e w' => e = .returned (.int .i64 (findV (findA ax n))) ∧ w' = w := by
  obtain ⟨p, c, rfl, hk⟩ := hv
  have HIT := hide (fun k hk h e => find_hit (ax := ax) (n := n) (k := k) hk h e)
  have END := hide (fun h => find_none (ax := ax) (n := n) h)
  go_enter Tryd.func41, Tryd.ntmps41
  go_wp2_with fail
  go_loop [5] (fun iv => ∃ j : Nat, j ≤ ax.length ∧ iv = .int .i64 j ∧ Hid (∀ m (_ : m < ax.length), m < j → ¬ ax[m].1 = n)) (fun iv => ax.length - (intOf iv).toNat)
  case atStart => exact ⟨0, Nat.zero_le _, rfl, fun m _ h => by omega⟩
  case round =>
    obtain ⟨j, hj, rfl, hd⟩ := hrel
    by_cases h : j < ax.length
    · have i1 : (j : Int) < (ax.length : Int) := by omega
      rcases hk with hk | ⟨b, o, rfl, hk⟩
      · subst hk; simp at h
      have hc := (hk j h).1
      by_cases e : ax[j].1 = n
      · have E := hide (HIT.out j h hd.out e)
        have d : (ax[j].1.toList == n.toList) = true := by rw [txt_beq]; exact decide_eq_true e
        clear e hd HIT END hk
        generalize ax[j].1 = aj at *
        go_wp2_with fail
        go_ret
        exact ⟨by rw [E.out]; rfl, rfl⟩
      · have d : (ax[j].1.toList == n.toList) = false := by rw [txt_beq]; exact decide_eq_false e
        have hd' : Hid (∀ m (_ : m < ax.length), m < j + 1 → ¬ ax[m].1 = n) := by
          intro m hm hmj
          rcases Nat.lt_or_ge m j with q | q
          · exact hd.out m hm q
          · obtain rfl : m = j := by omega
            exact e
        clear e hd HIT END hk
        generalize ax[j].1 = aj at *
        go_wp2_with fail
        go_round
        case rel => exact ⟨j + 1, by omega, by go_num, hd'⟩
        case measure => simp [intOf]; omega
    · obtain rfl : j = ax.length := by omega
      have E := hide (END.out (fun m hm => hd.out m hm hm))
      clear hd HIT END hk
      go_wp2_with fail
      go_ret
      exact ⟨by rw [E.out]; rfl, rfl⟩
def isN (n : ByteArray) (x : ByteArray × ByteArray) : Bool := decide (x.1 = n)
/-- A function value that answers p of attributes, in every later world. -/
def PredA (g : Nat) (lb : Array Value) (p : ByteArray × ByteArray → Bool) (w : World) : Prop :=
  ∀ (W : World) (x : ByteArray × ByteArray), Below w.heap.size w W → Calls Tryd.prog g (#[.agg #[.string x.1, .string x.2]] ++ lb) W fun e w' => e = .returned (.bool (p x)) ∧ Below W.heap.size W w'
theorem PredA.later {g : Nat} {lb : Array Value} {p : ByteArray × ByteArray → Bool} {w w' : World} (h : PredA g lb p w) (hb : Below w.heap.size w w') : PredA g lb p w' := fun W x q => h W x (chain hb q)
theorem idx_hit {ax : List (ByteArray × ByteArray)} {p : ByteArray × ByteArray → Bool} {k : Nat} (h : k < ax.length) (hp : p ax[k] = true) (hd : ∀ j (hj : j < ax.length), j < k → p ax[j] = false) : ax.findIdx? p = some k := by
  rw [List.findIdx?_eq_some_iff_getElem]
  exact ⟨h, hp, fun j hj => by rw [hd j (by omega) hj]; decide⟩
theorem idx_miss {ax : List (ByteArray × ByteArray)} {p : ByteArray × ByteArray → Bool} (hd : ∀ j (hj : j < ax.length), p ax[j] = false) : ax.findIdx? p = none := by
  rw [List.findIdx?_eq_none_iff]
  intro x hx
  obtain ⟨j, hj, rfl⟩ := List.getElem_of_mem hx
  exact hd j hj
set_option maxHeartbeats 2000000 in
theorem indexFuncA_any (v : Value) (ax : List (ByteArray × ByteArray)) (p : ByteArray × ByteArray → Bool) (g : Nat) (lb : Array Value) (eg : ∀ args w, (callFunc g args).run Tryd.prog w = .ok (.enter g args) w) (w : World) (hv : AttrsV w v ax) (hp : PredA g lb p w) (hl : ax.length ≤ 4398046511104) :
    Calls Tryd.prog 50 #[v, .func (.func g) #[] lb] w fun e w' => e = .returned (.int .i64 (findV (ax.findIdx? p))) ∧ Below w.heap.size w w' := by
  obtain ⟨pp, c, rfl, hv⟩ := hv
  have HIT := hide (fun k h h1 h2 => idx_hit (ax := ax) (p := p) (k := k) h h1 h2)
  have MISS := hide (fun h => idx_miss (ax := ax) (p := p) h)
  generalize ax.findIdx? p = R at *
  have HP := hide hp
  clear hp
  go_enter Tryd.func50, Tryd.ntmps50
  go_wp2_with fail
  go_loopw [8] (fun iv wr => ∃ k : Nat, k ≤ ax.length ∧ iv = .int .i64 k ∧ Hid (∀ j (hj : j < ax.length), j < k → p ax[j] = false) ∧ Hid (Below w.heap.size w wr)) (fun iv _ => ax.length - (intOf iv).toNat)
  case atStart => exact ⟨0, Nat.zero_le _, rfl, fun j _ q => by omega, Below.refl _ _⟩
  case round =>
    rename World => wr
    obtain ⟨k, hk, rfl, hd, BW⟩ := hrel
    by_cases h : k < ax.length
    · have i1 : (k : Int) < (ax.length : Int) := by omega
      rcases hv with hv | ⟨b, o, rfl, hv⟩
      · rw [hv] at h; simp at h
      have c0 := cell_below (hv k h).1 BW.out
      have c1 := cell_below (hv k h).2 BW.out
      have HC := hide (HP.out wr ax[k] BW.out)
      have HK := hide (HIT.out k h)
      have ND := hide (fun q : p ax[k] = false => (fun j (hj : j < ax.length) (r : j < k + 1) => by
        rcases Nat.lt_or_ge j k with t | t
        · exact hd.out j hj t
        · obtain rfl : j = k := by omega
          exact q : ∀ j (hj : j < ax.length), j < k + 1 → p ax[j] = false))
      clear hv HP HIT MISS
      cases q : p ax[k] with
      | true =>
        have E := hide (HK.out q (fun j hj r => hd.out j hj r))
        rw [q] at HC
        clear HK ND q hd
        generalize ax[k].1 = x1 at *
        generalize ax[k].2 = x2 at *
        go_wp2_with fail
        refine HC.out.mono ?_
        rintro e w' ⟨rfl, hb'⟩
        go_wp2_with fail
        go_ret
        exact ⟨by rw [E.out]; rfl, chain BW.out hb'⟩
      | false =>
        have E := hide (ND.out q)
        rw [q] at HC
        clear HK ND q hd
        generalize ax[k].1 = x1 at *
        generalize ax[k].2 = x2 at *
        go_wp2_with fail
        refine HC.out.mono ?_
        rintro e w' ⟨rfl, hb'⟩
        go_wp2_with fail
        go_roundw
        case rel => exact ⟨k + 1, by omega, by go_num, E, chain BW.out hb'⟩
        case measure => simp [intOf]; omega
    · obtain rfl : k = ax.length := by omega
      have E := hide (MISS.out (fun j hj => hd.out j hj hj))
      clear HIT MISS hd hv HP h
      go_wp2_with fail
      go_ret
      exact ⟨by rw [E.out]; rfl, BW.out⟩
theorem findV_nonneg (o : Option Nat) : decide (0 ≤ findV o) = o.isSome := by
  cases o with
  | none => rfl
  | some k => exact decide_eq_true (by show (0 : Int) ≤ (k : Int); omega)
set_option maxHeartbeats 8000000 in
theorem containsFuncA_any (v : Value) (ax : List (ByteArray × ByteArray)) (p : ByteArray × ByteArray → Bool) (g : Nat) (lb : Array Value) (eg : ∀ args w, (callFunc g args).run Tryd.prog w = .ok (.enter g args) w) (w : World) (hv : AttrsV w v ax) (hp : PredA g lb p w) (hl : ax.length ≤ 4398046511104) :
    Calls Tryd.prog 59 #[v, .func (.func g) #[] lb] w fun e w' => e = .returned (.bool (ax.findIdx? p).isSome) ∧ Below w.heap.size w w' := by
  have HI := hide (indexFuncA_any v ax p g lb eg w hv hp hl)
  have E := hide (findV_nonneg (ax.findIdx? p))
  generalize (ax.findIdx? p).isSome = R at *
  generalize findV (ax.findIdx? p) = z at *
  clear hv hp
  go_enter Tryd.func59, Tryd.ntmps59
  go_wp2_with fail
  refine HI.out.mono ?_
  rintro e w1 ⟨rfl, b1⟩
  go_wp2_with fail
  go_ret
  exact ⟨ret_bool E.out, b1⟩
end Go.Proofs.YtnojgejcmaajmaaDoor

namespace Go.Proofs.YtnojgejcmaajmaaDoor
open Go.RowKit
set_option maxRecDepth 100000
theorem cnt_take {l : List Int} {k : Nat} (n : Int) (hk : k < l.length) : cntI (l.take (k + 1)) n = cntI (l.take k) n + (if l[k] = n then 1 else 0) := by
  unfold cntI
  rw [List.take_succ_eq_append_getElem hk, List.count_append, List.count_singleton]
  congr 1
  by_cases h : l[k] = n
  · rw [if_pos h, h]; simp
  · rw [if_neg h]; simp [h]
theorem cnt_le (l : List Int) (n : Int) : cntI l n ≤ l.length := List.count_le_length
set_option maxHeartbeats 1000000 in
theorem refCount_any (v : Value) (ks : List Int) (n : Int) (w : World) (hv : IntsV w v ks) (hl : ks.length ≤ 17592186044416) :
    Calls Tryd.prog 53 #[v, .int .i64 n] w fun e w' => e = .returned (.int .i64 (cntI ks n : Nat)) ∧ w' = w := by
  obtain ⟨p, c, rfl, hk⟩ := hv
  have ST := hide (fun k hk => cnt_take (l := ks) (k := k) n hk)
  have LE := hide (fun k => Nat.le_trans (cnt_le (ks.take k) n) (List.length_take_le k ks))
  go_enter Tryd.func53, Tryd.ntmps53
  go_wp2_with fail
  go_loop [5, 6] (fun kv iv => ∃ j : Nat, j ≤ ks.length ∧ iv = .int .i64 j ∧ kv = .int .i64 (cntI (ks.take j) n : Nat)) (fun _ iv => ks.length - (intOf iv).toNat)
  case atStart => exact ⟨0, Nat.zero_le _, rfl, rfl⟩
  case round =>
    obtain ⟨j, hj, rfl, rfl⟩ := hrel
    by_cases h : j < ks.length
    · have i1 : (j : Int) < (ks.length : Int) := by omega
      have le := LE.out j
      have st := ST.out j h
      rcases hk with hk | ⟨b, o, rfl, hk⟩
      · subst hk; simp at h
      have hc := hk j h
      by_cases e : ks[j] = n
      · have d : (ks[j] == n) = true := by rw [e]; simp
        rw [if_pos e] at st
        replace st := hide st
        clear e ST LE hk
        generalize ks[j] = kj at *
        generalize cntI (ks.take j) n = cn at *
        go_wp2_with fail
        go_round
        case rel => exact ⟨j + 1, by omega, by go_num, by rw [st.out]; go_num⟩
        case measure => simp [intOf]; omega
      · have d : (ks[j] == n) = false := by rw [beq_eq_false_iff_ne]; exact e
        rw [if_neg e] at st
        replace st := hide st
        clear e ST LE hk
        generalize ks[j] = kj at *
        generalize cntI (ks.take j) n = cn at *
        go_wp2_with fail
        go_round
        case rel => exact ⟨j + 1, by omega, by go_num, by rw [st.out]; rfl⟩
        case measure => simp [intOf]; omega
    · obtain rfl : j = ks.length := by omega
      have E : Hid (cntI (ks.take ks.length) n = cntI ks n) := by show _ = _; rw [List.take_length]
      clear ST LE hk
      generalize cntI (ks.take ks.length) n = cn at *
      go_wp2_with fail
      go_ret
      exact ⟨by rw [← E.out]; rfl, rfl⟩
-- the rest
theorem byte_at (s : ByteArray) (k : Nat) (h : k < s.size) : s.data.toList[k]'(by simpa using h) = s[k] := by simp; rfl
theorem name_no {s : ByteArray} {k : Nat} (hk : k < s.size) (h : nmAt k s[k] = false) : nameOk s = false := by
  unfold nameOk
  rw [nmAll_bad (l := s.data.toList) (n := 0) (k := k) (by simpa using hk) (by rw [Nat.zero_add, byte_at s k hk]; exact h), Bool.and_false]
theorem name_end {s : ByteArray} (h : ∀ k (_ : k < s.size), nmAt k s[k] = true) : nameOk s = decide (0 < s.size ∧ s.size ≤ 20) := by
  unfold nameOk
  rw [nmAll_all (l := s.data.toList) (n := 0) (fun k hk => by
    have hk2 : k < s.size := by simpa using hk
    rw [Nat.zero_add, byte_at s k hk2]; exact h k hk2), Bool.and_true]
theorem small_iff (c : UInt8) : smallC c = true ↔ 97 ≤ c.toNat ∧ c.toNat ≤ 122 := by unfold smallC; simp
theorem nm_small {i : Nat} {c : UInt8} (h : 97 ≤ c.toNat ∧ c.toNat ≤ 122) : nmAt i c = true := by unfold nmAt; rw [(small_iff c).2 h]; rfl
theorem nm_other {i : Nat} {c : UInt8} (hi : ¬ i = 0) (h : (48 ≤ c.toNat ∧ c.toNat ≤ 57) ∨ c.toNat = 45) : nmAt i c = true := by
  unfold nmAt
  have h1 : (i == 0) = false := by simpa using hi
  have h2 : otherC c = true := by
    unfold otherC
    rcases h with h | h
    · rw [decide_eq_true h]; rfl
    · have : c = 45 := UInt8.toNat_inj.1 h
      subst this; rfl
  rw [h1, h2]; simp
theorem nm_not {i : Nat} {c : UInt8} (h : ¬ (97 ≤ c.toNat ∧ c.toNat ≤ 122)) (h2 : i = 0 ∨ ¬ ((48 ≤ c.toNat ∧ c.toNat ≤ 57) ∨ c.toNat = 45)) : nmAt i c = false := by
  unfold nmAt
  have h1 : smallC c = false := by unfold smallC; exact decide_eq_false h
  rw [h1, Bool.false_or]
  rcases h2 with rfl | h2
  · rfl
  · have h3 : otherC c = false := by
      unfold otherC
      rw [decide_eq_false (fun q => h2 (.inl q)), Bool.false_or, beq_eq_false_iff_ne]
      exact fun q => h2 (.inr (by rw [q]; rfl))
    rw [h3, Bool.and_false]
set_option maxHeartbeats 2000000 in
theorem refName_any (s : ByteArray) (w : World) (hs : s.size ≤ maxLen) :
    Calls Tryd.prog 61 #[.string s] w fun e w' => e = .returned (.bool (nameOk s)) ∧ w' = w := by
  unfold maxLen at hs
  have NO := hide (fun k hk h => name_no (s := s) (k := k) hk h)
  have END := hide (fun h => name_end (s := s) h)
  go_enter Tryd.func61, Tryd.ntmps61
  go_wp2_with fail
  go_loop [3] (fun iv => ∃ k : Nat, k ≤ s.size ∧ iv = .int .i64 k ∧ Hid (∀ j (_ : j < s.size), j < k → nmAt j s[j] = true)) (fun iv => s.size - (intOf iv).toNat)
  case atStart => exact ⟨0, Nat.zero_le _, rfl, fun j _ h => by omega⟩
  case round =>
    obtain ⟨k, hk, rfl, hd⟩ := hrel
    by_cases hlt : k < s.size
    · have hI : (k : Int) < (s.size : Int) := by omega
      have NX : nmAt k s[k] = true → Hid (∀ j (_ : j < s.size), j < k + 1 → nmAt j s[j] = true) := by
        intro h j hj hjk
        rcases Nat.lt_or_ge j k with q | q
        · exact hd.out j hj q
        · obtain rfl : j = k := by omega
          exact h
      have BAD := NO.out k hlt
      have h255 : (s[k].toNat : Int) ≤ 255 := by have := s[k].toNat_lt; omega
      clear hd NO END
      rcases (show s[k].toNat < 45 ∨ s[k].toNat = 45 ∨ (45 < s[k].toNat ∧ s[k].toNat < 48) ∨ (48 ≤ s[k].toNat ∧ s[k].toNat ≤ 57) ∨ (57 < s[k].toNat ∧ s[k].toNat < 97) ∨ (97 ≤ s[k].toNat ∧ s[k].toNat ≤ 122) ∨ 122 < s[k].toNat by omega) with r | r | r | r | r | r | r
      · have _r := r
        have d45 : ((s[k].toNat : Int) == 45) = false := by rw [beq_eq_false_iff_ne]; omega
        have d57 : decide ((s[k].toNat : Int) ≤ 57) = true := decide_eq_true (by omega)
        have d122 : decide ((s[k].toNat : Int) ≤ 122) = true := decide_eq_true (by omega)
        have E := hide (BAD (nm_not (by omega) (.inr (by omega))))
        clear NX BAD
        by_cases k0 : k = 0
        · have e0 : ((k : Int) == 0) = true := by rw [k0]; rfl
          clear k0
          go_wp2
          go_ret
          exact ⟨ret_bool E.out.symm, rfl⟩
        · have e0 : ((k : Int) == 0) = false := by rw [beq_eq_false_iff_ne]; omega
          clear k0
          go_wp2
          go_ret
          exact ⟨ret_bool E.out.symm, rfl⟩
      · have _r := r
        have d45 : ((s[k].toNat : Int) == 45) = true := by rw [r]; rfl
        have d57 : decide ((s[k].toNat : Int) ≤ 57) = true := decide_eq_true (by omega)
        have d122 : decide ((s[k].toNat : Int) ≤ 122) = true := decide_eq_true (by omega)
        by_cases k0 : k = 0
        · have E := hide (BAD (nm_not (by omega) (.inl k0)))
          have e0 : ((k : Int) == 0) = true := by rw [k0]; rfl
          have e1 : (k : Int) ≤ 0 := by omega
          clear NX BAD k0
          go_wp2
          go_ret
          exact ⟨ret_bool E.out.symm, rfl⟩
        · have E := NX (nm_other k0 (by omega))
          have e0 : ((k : Int) == 0) = false := by rw [beq_eq_false_iff_ne]; omega
          have e1 : 0 < (k : Int) := by omega
          clear NX BAD k0
          go_wp2
          go_round
          case rel => exact ⟨k + 1, by omega, by go_num, E⟩
          case measure => simp [intOf]; omega
      · have _r := r
        have d45 : ((s[k].toNat : Int) == 45) = false := by rw [beq_eq_false_iff_ne]; omega
        have d57 : decide ((s[k].toNat : Int) ≤ 57) = true := decide_eq_true (by omega)
        have d122 : decide ((s[k].toNat : Int) ≤ 122) = true := decide_eq_true (by omega)
        have E := hide (BAD (nm_not (by omega) (.inr (by omega))))
        clear NX BAD
        by_cases k0 : k = 0
        · have e0 : ((k : Int) == 0) = true := by rw [k0]; rfl
          clear k0
          go_wp2
          go_ret
          exact ⟨ret_bool E.out.symm, rfl⟩
        · have e0 : ((k : Int) == 0) = false := by rw [beq_eq_false_iff_ne]; omega
          clear k0
          go_wp2
          go_ret
          exact ⟨ret_bool E.out.symm, rfl⟩
      · have _r := r
        have d45 : ((s[k].toNat : Int) == 45) = false := by rw [beq_eq_false_iff_ne]; omega
        have d57 : decide ((s[k].toNat : Int) ≤ 57) = true := decide_eq_true (by omega)
        have d122 : decide ((s[k].toNat : Int) ≤ 122) = true := decide_eq_true (by omega)
        by_cases k0 : k = 0
        · have E := hide (BAD (nm_not (by omega) (.inl k0)))
          have e0 : ((k : Int) == 0) = true := by rw [k0]; rfl
          have e1 : (k : Int) ≤ 0 := by omega
          clear NX BAD k0
          go_wp2
          go_ret
          exact ⟨ret_bool E.out.symm, rfl⟩
        · have E := NX (nm_other k0 (by omega))
          have e0 : ((k : Int) == 0) = false := by rw [beq_eq_false_iff_ne]; omega
          have e1 : 0 < (k : Int) := by omega
          clear NX BAD k0
          go_wp2
          go_round
          case rel => exact ⟨k + 1, by omega, by go_num, E⟩
          case measure => simp [intOf]; omega
      · have _r := r
        have d45 : ((s[k].toNat : Int) == 45) = false := by rw [beq_eq_false_iff_ne]; omega
        have d57 : decide ((s[k].toNat : Int) ≤ 57) = false := decide_eq_false (by omega)
        have d122 : decide ((s[k].toNat : Int) ≤ 122) = true := decide_eq_true (by omega)
        have E := hide (BAD (nm_not (by omega) (.inr (by omega))))
        clear NX BAD
        by_cases k0 : k = 0
        · have e0 : ((k : Int) == 0) = true := by rw [k0]; rfl
          clear k0
          go_wp2
          go_ret
          exact ⟨ret_bool E.out.symm, rfl⟩
        · have e0 : ((k : Int) == 0) = false := by rw [beq_eq_false_iff_ne]; omega
          clear k0
          go_wp2
          go_ret
          exact ⟨ret_bool E.out.symm, rfl⟩
      · have E := NX (nm_small r)
        have d45 : ((s[k].toNat : Int) == 45) = false := by rw [beq_eq_false_iff_ne]; omega
        have d57 : decide ((s[k].toNat : Int) ≤ 57) = false := decide_eq_false (by omega)
        have d122 : decide ((s[k].toNat : Int) ≤ 122) = true := decide_eq_true (by omega)
        clear NX BAD
        go_wp2
        go_round
        case rel => exact ⟨k + 1, by omega, by go_num, E⟩
        case measure => simp [intOf]; omega
      · have _r := r
        have d45 : ((s[k].toNat : Int) == 45) = false := by rw [beq_eq_false_iff_ne]; omega
        have d57 : decide ((s[k].toNat : Int) ≤ 57) = false := decide_eq_false (by omega)
        have d122 : decide ((s[k].toNat : Int) ≤ 122) = false := decide_eq_false (by omega)
        have E := hide (BAD (nm_not (by omega) (.inr (by omega))))
        clear NX BAD
        by_cases k0 : k = 0
        · have e0 : ((k : Int) == 0) = true := by rw [k0]; rfl
          clear k0
          go_wp2
          go_ret
          exact ⟨ret_bool E.out.symm, rfl⟩
        · have e0 : ((k : Int) == 0) = false := by rw [beq_eq_false_iff_ne]; omega
          clear k0
          go_wp2
          go_ret
          exact ⟨ret_bool E.out.symm, rfl⟩
    · obtain rfl : k = s.size := by omega
      have E := END.out (fun j hj => hd.out j hj hj)
      clear hd NO END
      by_cases h0 : 0 < s.size
      · have i0 : (0 : Int) < (s.size : Int) := by omega
        by_cases h20 : s.size ≤ 20
        · have i20 : (s.size : Int) ≤ 20 := by omega
          rw [decide_eq_true ⟨h0, h20⟩] at E
          have d : decide ((s.size : Int) ≤ 20) = true := decide_eq_true i20
          replace E := hide E
          go_wp2_with fail
          go_ret
          exact ⟨ret_bool (by first | exact E.out.symm | exact d.trans E.out.symm), rfl⟩
        · have i20 : ¬ (s.size : Int) ≤ 20 := by omega
          rw [decide_eq_false (fun q => h20 q.2)] at E
          have d : decide ((s.size : Int) ≤ 20) = false := decide_eq_false i20
          replace E := hide E
          go_wp2_with fail
          go_ret
          exact ⟨ret_bool (by first | exact E.out.symm | exact d.trans E.out.symm), rfl⟩
      · have i0 : ¬ (0 : Int) < (s.size : Int) := by omega
        rw [decide_eq_false (fun q => h0 q.1)] at E
        replace E := hide E
        go_wp2_with fail
        go_ret
        exact ⟨ret_bool E.out.symm, rfl⟩
end Go.Proofs.YtnojgejcmaajmaaDoor

namespace Go.Proofs.YtnojgejcmaajmaaDoor
open Go.RowKit
set_option maxRecDepth 100000
theorem below_drewD {w w1 : World} {b : Nat} (h : Below b w w1) (q : Nat) : Below b w (w1.drewN q) := ⟨h.1, h.2, h.3, h.4, h.5⟩
theorem attr_no {ax : List (ByteArray × ByteArray)} {i : Nat} (hi : i < ax.length) (h : attrOk ax i = false) : (List.range ax.length).all (attrOk ax) = false := by
  rw [List.all_eq_false]
  exact ⟨i, List.mem_range.2 hi, by rw [h]; simp⟩
theorem attr_all {ax : List (ByteArray × ByteArray)} (h : ∀ i, i < ax.length → attrOk ax i = true) : (List.range ax.length).all (attrOk ax) = true := by
  rw [List.all_eq_true]
  exact fun i hi => h i (List.mem_range.1 hi)
theorem attrOk_at {ax : List (ByteArray × ByteArray)} {i : Nat} (hi : i < ax.length) : attrOk ax i = (nameOk ax[i].1 && (decide (ax[i].2.size ≤ 4000) && findA ax ax[i].1 == some i)) := by
  unfold attrOk
  rw [show ax.getD i at0 = ax[i] by simp [List.getD, hi]]
def aggN (n : Nd) (va vk : Value) : Value := .agg #[.string n.name, .string n.text, va, .int .i64 n.parent, vk]
theorem alone_text {n : Nd} (h0 : n.name.size = 0) : aloneB n = (n.attrs.isEmpty && (n.kids.isEmpty && decide (n.text.size ≤ 4000))) := by unfold aloneB; rw [if_pos h0]
theorem alone_el {n : Nd} (h0 : ¬ n.name.size = 0) : aloneB n = (nameOk n.name && (n.text.size == 0 && (decide (n.attrs.length ≤ 40) && (List.range n.attrs.length).all (attrOk n.attrs)))) := by unfold aloneB; rw [if_neg h0]
theorem empty_iff {α : Type} (l : List α) : l.isEmpty = (l.length == 0) := by cases l <;> rfl
set_option maxHeartbeats 4000000 in
set_option maxRecDepth 100000 in
theorem refAlone_any (n : Nd) (va vk : Value) (w : World) (ha : AttrsV w va n.attrs) (hk : IntsV w vk n.kids) (hl : n.attrs.length ≤ 4398046511104) (hs : n.name.size ≤ maxLen ∧ n.text.size ≤ maxLen ∧ ∀ a ∈ n.attrs, a.1.size ≤ maxLen ∧ a.2.size ≤ maxLen) :
    Calls Tryd.prog 52 #[aggN n va vk] w fun e w' => e = .returned (.bool (aloneB n)) ∧ Below w.heap.size w w' := by
  have HN := hide (fun w => refName_any n.name w hs.1)
  have HM := hide hs.2.2
  have HA := hide ha
  obtain ⟨p, c, rfl, hv⟩ := ha
  obtain ⟨q, d, rfl, hkk⟩ := hk
  clear hkk
  unfold aggN
  clear hs
  by_cases h0 : n.name.size = 0
  · have E := alone_text h0
    rw [empty_iff, empty_iff] at E
    have i0 : (n.name.size : Int) = 0 := by omega
    have e0 : ((n.name.size : Int) == 0) = true := by rw [i0]; rfl
    clear HN h0 i0 hv HM HA
    generalize n.name = nm at *
    by_cases h1 : n.attrs.length = 0
    · have e1 : ((n.attrs.length : Int) == 0) = true := by rw [h1]; rfl
      rw [h1, show ((0 : Nat) == 0) = true from rfl, Bool.true_and] at E
      clear h1
      by_cases h2 : n.kids.length = 0
      · have e2 : ((n.kids.length : Int) == 0) = true := by rw [h2]; rfl
        rw [h2, show ((0 : Nat) == 0) = true from rfl, Bool.true_and] at E
        have e3 : decide ((n.text.size : Int) ≤ 4000) = decide (n.text.size ≤ 4000) := by congr 1; simp only [eq_iff_iff]; omega
        rw [← e3] at E
        clear h2 e3
        replace E := hide E
        go_enter Tryd.func52, Tryd.ntmps52
        go_wp2_with fail
        go_ret
        exact ⟨ret_bool E.out.symm, (Below.refl _ w).alloc (Nat.le_refl _) _⟩
      · have e2 : ((n.kids.length : Int) == 0) = false := by rw [beq_eq_false_iff_ne]; omega
        rw [show (n.kids.length == 0) = false by rw [beq_eq_false_iff_ne]; exact h2, Bool.false_and] at E
        clear h2
        replace E := hide E
        go_enter Tryd.func52, Tryd.ntmps52
        go_wp2_with fail
        go_ret
        exact ⟨ret_bool E.out.symm, (Below.refl _ w).alloc (Nat.le_refl _) _⟩
    · have e1 : ((n.attrs.length : Int) == 0) = false := by rw [beq_eq_false_iff_ne]; omega
      rw [show (n.attrs.length == 0) = false by rw [beq_eq_false_iff_ne]; exact h1, Bool.false_and] at E
      clear h1
      replace E := hide E
      go_enter Tryd.func52, Tryd.ntmps52
      go_wp2_with fail
      go_ret
      exact ⟨ret_bool E.out.symm, (Below.refl _ w).alloc (Nat.le_refl _) _⟩
  · have E := alone_el h0
    have e0 : ((n.name.size : Int) == 0) = false := by rw [beq_eq_false_iff_ne]; omega
    clear h0
    cases h1 : nameOk n.name with
    | false =>
      rw [h1] at HN
      rw [h1, Bool.false_and] at E
      replace E := hide E
      clear h1 hv HM HA
      go_enter Tryd.func52, Tryd.ntmps52
      go_wp2_with fail
      refine (HN.out _).mono ?_
      rintro e u ⟨rfl, rfl⟩
      go_wp2_with fail
      go_ret
      exact ⟨ret_bool E.out.symm, (Below.refl _ w).alloc (Nat.le_refl _) _⟩
    | true =>
      rw [h1] at HN
      rw [h1, Bool.true_and] at E
      clear h1
      by_cases h2 : n.text.size = 0
      · have e2 : ¬ (0 : Int) < (n.text.size : Int) := by omega
        rw [show (n.text.size == 0) = true by rw [h2]; rfl, Bool.true_and] at E
        obtain ⟨tx, etx⟩ : ∃ tx, n.text = tx := ⟨_, rfl⟩
        obtain rfl : tx = ByteArray.empty := by
          rw [etx] at h2
          apply ByteArray.ext
          exact Array.eq_empty_of_size_eq_zero h2
        rw [etx]
        clear h2 etx e2
        by_cases h3 : n.attrs.length ≤ 40
        · have e3 : ¬ (40 : Int) < (n.attrs.length : Int) := by omega
          have e3d : decide ((40 : Int) < (n.attrs.length : Int)) = false := decide_eq_false e3
          rw [decide_eq_true h3, Bool.true_and] at E
          have NO := hide (fun i hi h => E.trans (attr_no (ax := n.attrs) (i := i) hi h))
          have END := hide (fun h => E.trans (attr_all (ax := n.attrs) h))
          have AT := hide (fun i hi => attrOk_at (ax := n.attrs) (i := i) hi)
          clear E
          go_enter Tryd.func52, Tryd.ntmps52
          go_wp2_with fail
          refine (HN.out _).mono ?_
          rintro e u ⟨rfl, rfl⟩
          go_wp2_with fail
          go_loopw [3] (fun iv wr => ∃ j : Nat, j ≤ n.attrs.length ∧ iv = .int .i64 j ∧ Hid (∀ m, m < j → m < n.attrs.length → attrOk n.attrs m = true) ∧ wr.cell? ⟨w.heap.size, 2, none⟩ = some (.slice p n.attrs.length c) ∧ Below w.heap.size w wr) (fun iv _ => n.attrs.length - (intOf iv).toNat)
          case atStart => exact ⟨0, Nat.zero_le _, rfl, fun m h => by omega, by rw [World.cell?_alloc_new]; rfl, (Below.refl _ w).alloc (Nat.le_refl _) _⟩
          case round =>
            obtain ⟨j, hj, rfl, hd, hc2, hb⟩ := hrel
            rename World => wr
            by_cases h : j < n.attrs.length
            · have i1 : (j : Int) < (n.attrs.length : Int) := by omega
              have HAw := hide (HA.out.below hb)
              rcases hv with hv | ⟨b, o, rfl, hv⟩
              · rw [hv] at h; simp at h
              have hc := cell_below (hv j h).1 hb
              have hd1 := cell_below (hv j h).2 hb
              have hm := HM.out n.attrs[j] (List.getElem_mem _)
              have HNj := hide (fun w => refName_any n.attrs[j].1 w hm.1)
              have HFj := hide (fun m => refFind_any (.slice (some ⟨b, o, none⟩) n.attrs.length c) n.attrs n.attrs[j].1 (wr.drewN m) HAw.out hl)
              have at1 := AT.out j h
              have BAD := NO.out j h
              have NX : attrOk n.attrs j = true → Hid (∀ m, m < j + 1 → m < n.attrs.length → attrOk n.attrs m = true) := by
                intro q m hm2 hm3
                rcases Nat.lt_or_ge m j with r | r
                · exact hd.out m r hm3
                · obtain rfl : m = j := by omega
                  exact q
              have hsz : n.attrs[j].2.size ≤ maxLen := hm.2
              clear hd NO END AT HA HM HAw hv HN hm
              generalize n.attrs[j].1 = x1 at *
              generalize n.attrs[j].2 = x2 at *
              cases k1 : nameOk x1 with
              | false =>
                rw [k1, Bool.false_and] at at1
                rw [k1] at HNj
                have E := hide (BAD at1)
                clear BAD NX at1 k1
                go_wp2_with fail
                go_quiet (first | with_reducible exact Calls.quiet_of_same (HNj.out _) | with_reducible exact Calls.quiet_of_same (HFj.out _))
                go_wp2_with fail
                go_ret
                exact ⟨ret_bool E.out.symm, below_drewD hb _⟩
              | true =>
                rw [k1, Bool.true_and] at at1
                rw [k1] at HNj
                by_cases k2 : x2.size ≤ 4000
                · have e5 : ¬ (4000 : Int) < (x2.size : Int) := by omega
                  have e6 : decide ((4000 : Int) < (x2.size : Int)) = false := decide_eq_false e5
                  rw [decide_eq_true k2, Bool.true_and] at at1
                  cases k3 : findA n.attrs x1 with
                  | none =>
                    rw [k3] at at1 HFj
                    have E := hide (BAD at1)
                    have e7 : ((findV none) != (j : Int)) = true := by rw [bne_iff_ne]; show ¬ (-1 : Int) = (j : Int); omega
                    clear BAD NX at1 k1 k2 k3
                    generalize findV none = fv at *
                    go_wp2_with fail
                    go_quiet (first | with_reducible exact Calls.quiet_of_same (HNj.out _) | with_reducible exact Calls.quiet_of_same (HFj.out _))
                    go_wp2_with fail
                    go_ret
                    exact ⟨ret_bool E.out.symm, below_drewD hb _⟩
                  | some z =>
                    rw [k3] at at1 HFj
                    by_cases k4 : z = j
                    · subst k4
                      have E := NX (by rw [at1]; simp)
                      have e7 : ((findV (some z)) != (z : Int)) = false := by rw [bne_eq_false_iff_eq]; rfl
                      clear BAD NX at1 k1 k2 k3
                      generalize findV (some z) = fv at *
                      go_wp2_with fail
                      go_quiet (first | with_reducible exact Calls.quiet_of_same (HNj.out _) | with_reducible exact Calls.quiet_of_same (HFj.out _))
                      go_wp2_with fail
                      go_roundw
                      case rel => exact ⟨z + 1, by omega, by go_num, E, hc2, below_drewD hb _⟩
                      case measure => simp [intOf]; omega
                    · have E := hide (BAD (by rw [at1]; simpa using k4))
                      have e7 : ((findV (some z)) != (j : Int)) = true := by rw [bne_iff_ne]; show ¬ (z : Int) = (j : Int); omega
                      clear BAD NX at1 k1 k2 k3 k4
                      generalize findV (some z) = fv at *
                      go_wp2_with fail
                      go_quiet (first | with_reducible exact Calls.quiet_of_same (HNj.out _) | with_reducible exact Calls.quiet_of_same (HFj.out _))
                      go_wp2_with fail
                      go_ret
                      exact ⟨ret_bool E.out.symm, below_drewD hb _⟩
                · have e5 : (4000 : Int) < (x2.size : Int) := by omega
                  have e6 : decide ((4000 : Int) < (x2.size : Int)) = true := decide_eq_true e5
                  rw [decide_eq_false k2, Bool.false_and] at at1
                  have E := hide (BAD at1)
                  clear BAD NX at1 k1 k2
                  go_wp2_with fail
                  go_quiet (first | with_reducible exact Calls.quiet_of_same (HNj.out _) | with_reducible exact Calls.quiet_of_same (HFj.out _))
                  go_wp2_with fail
                  go_ret
                  exact ⟨ret_bool E.out.symm, below_drewD hb _⟩
            · obtain rfl : j = n.attrs.length := by omega
              have E := hide (END.out (fun m hm => hd.out m hm hm))
              clear hd NO END AT HA HM hv HN
              go_wp2_with fail
              go_ret
              exact ⟨ret_bool E.out.symm, hb⟩
        · have e3 : (40 : Int) < (n.attrs.length : Int) := by omega
          have e3d : decide ((40 : Int) < (n.attrs.length : Int)) = true := decide_eq_true e3
          rw [decide_eq_false h3, Bool.false_and] at E
          replace E := hide E
          clear h3 hv HM HA
          go_enter Tryd.func52, Tryd.ntmps52
          go_wp2_with fail
          refine (HN.out _).mono ?_
          rintro e u ⟨rfl, rfl⟩
          go_wp2_with fail
          go_ret
          exact ⟨ret_bool E.out.symm, (Below.refl _ w).alloc (Nat.le_refl _) _⟩
      · have e2 : (0 : Int) < (n.text.size : Int) := by omega
        rw [show (n.text.size == 0) = false by rw [beq_eq_false_iff_ne]; exact h2, Bool.false_and] at E
        replace E := hide E
        have e2n : 0 < n.text.size := by omega
        have e2e : ¬ n.text = ByteArray.empty := fun q => h2 (by rw [q]; rfl)
        have e2d : decide (0 < n.text.size) = true := decide_eq_true e2n
        clear h2 hv HM HA
        generalize n.text = tx at *
        go_enter Tryd.func52, Tryd.ntmps52
        go_wp2_with fail
        refine (HN.out _).mono ?_
        rintro e u ⟨rfl, rfl⟩
        go_wp2_with fail
        go_ret
        exact ⟨ret_bool E.out.symm, (Below.refl _ w).alloc (Nat.le_refl _) _⟩

end Go.Proofs.YtnojgejcmaajmaaDoor
