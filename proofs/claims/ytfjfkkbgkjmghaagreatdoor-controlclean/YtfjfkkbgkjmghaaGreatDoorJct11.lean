/- Documents as they lie in the world. Attributes of an element found by a name. The document's Value, Show, attr, Least, Most, Base of layer 12. -/
import Derived.Test.YtfjfkkbgkjmghaaGreatDoorJct4
import Derived.Test.YtfjfkkbgkjmghaaGreatDoorJct9
import Derived.Test.YtfjfkkbgkjmghaaGreatDoorJct10
import Derived.Shelf.Abstract

namespace Go.Proofs.YtfjfkkbgkjmghaaGreatDoor
open Go.RowKit
/-- A row of numbers behind a slice. -/
def IntsV (w : World) (v : Value) (ks : List Int) : Prop := ∃ p c, v = .slice p ks.length c ∧ (ks = [] ∨ ∃ b o, p = some ⟨b, o, none⟩ ∧ ∀ i (h : i < ks.length), w.cell? ⟨b, o + i, none⟩ = some (.int .i64 ks[i]))
/-- A row of attributes behind a slice. -/
def AttrsV (w : World) (v : Value) (ax : List (ByteArray × ByteArray)) : Prop := ∃ p c, v = .slice p ax.length c ∧ (ax = [] ∨ ∃ b o, p = some ⟨b, o, none⟩ ∧ ∀ i (h : i < ax.length), w.cell? ⟨b, o + i * 2, none⟩ = some (.string ax[i].1) ∧ w.cell? ⟨b, o + i * 2 + 1, none⟩ = some (.string ax[i].2))
/-- A slice is no longer than its room. -/
def CapOK (v : Value) : Prop := ∀ p n c, v = .slice p n c → n ≤ c
/-- A node's five cells. -/
structure NodeAt (w : World) (b o : Nat) (n : Nd) (va vk : Value) : Prop where
  name : w.cell? ⟨b, o, none⟩ = some (.string n.name)
  text : w.cell? ⟨b, o + 1, none⟩ = some (.string n.text)
  attrs : w.cell? ⟨b, o + 2, none⟩ = some va
  parent : w.cell? ⟨b, o + 3, none⟩ = some (.int .i64 n.parent)
  kids : w.cell? ⟨b, o + 4, none⟩ = some vk
  at_ : AttrsV w va n.attrs
  ks : IntsV w vk n.kids
  cap : CapOK va
/-- A document behind a slice. -/
def NodesV (w : World) (v : Value) (l : List Nd) : Prop := ∃ p c, v = .slice p l.length c ∧ (l = [] ∨ ∃ b o, p = some ⟨b, o, none⟩ ∧ ∀ i (h : i < l.length), ∃ va vk, NodeAt w b (o + i * 5) l[i] va vk)
theorem cell_below {w w' : World} {p : Addr} {x : Value} (h : w.cell? p = some x) (hb : Below w.heap.size w w') : w'.cell? p = some x := (hb.cell (World.block_lt_of_cell? _ _ h)).trans h
theorem IntsV.below {w w' : World} {v : Value} {ks : List Int} (h : IntsV w v ks) (hb : Below w.heap.size w w') : IntsV w' v ks := by
  obtain ⟨p, c, e, h⟩ := h
  refine ⟨p, c, e, ?_⟩
  rcases h with h | ⟨b, o, e2, h⟩
  · exact .inl h
  · exact .inr ⟨b, o, e2, fun i hi => cell_below (h i hi) hb⟩
theorem AttrsV.below {w w' : World} {v : Value} {ax : List (ByteArray × ByteArray)} (h : AttrsV w v ax) (hb : Below w.heap.size w w') : AttrsV w' v ax := by
  obtain ⟨p, c, e, h⟩ := h
  refine ⟨p, c, e, ?_⟩
  rcases h with h | ⟨b, o, e2, h⟩
  · exact .inl h
  · exact .inr ⟨b, o, e2, fun i hi => ⟨cell_below (h i hi).1 hb, cell_below (h i hi).2 hb⟩⟩
theorem NodeAt.below {w w' : World} {b o : Nat} {n : Nd} {va vk : Value} (h : NodeAt w b o n va vk) (hb : Below w.heap.size w w') : NodeAt w' b o n va vk :=
  ⟨cell_below h.name hb, cell_below h.text hb, cell_below h.attrs hb, cell_below h.parent hb, cell_below h.kids hb, h.at_.below hb, h.ks.below hb, h.cap⟩
theorem NodesV.below {w w' : World} {v : Value} {l : List Nd} (h : NodesV w v l) (hb : Below w.heap.size w w') : NodesV w' v l := by
  obtain ⟨p, c, e, h⟩ := h
  refine ⟨p, c, e, ?_⟩
  rcases h with h | ⟨b, o, e2, h⟩
  · exact .inl h
  · refine .inr ⟨b, o, e2, fun i hi => ?_⟩
    obtain ⟨va, vk, hn⟩ := h i hi
    exact ⟨va, vk, hn.below hb⟩
end Go.Proofs.YtfjfkkbgkjmghaaGreatDoor

namespace Go.Proofs.YtfjfkkbgkjmghaaGreatDoor
open Go.RowKit
set_option maxRecDepth 100000
theorem find_hit {ax : List (ByteArray × ByteArray)} {n : ByteArray} {k : Nat} (hk : k < ax.length) (h : ∀ j (_ : j < ax.length), j < k → ¬ ax[j].1 = n) (e : ax[k].1 = n) : findA ax n = some k := by
  unfold findA
  rw [List.findIdx?_eq_some_iff_getElem]
  exact ⟨hk, decide_eq_true e, fun j hj => by have := h j (by omega) hj; simpa using this⟩
theorem find_none {ax : List (ByteArray × ByteArray)} {n : ByteArray} (h : ∀ j (_ : j < ax.length), ¬ ax[j].1 = n) : findA ax n = none := by
  unfold findA
  rw [List.findIdx?_eq_none_iff]
  intro a ha
  obtain ⟨j, hj, rfl⟩ := List.getElem_of_mem ha
  simpa using h j hj
theorem txt_beq (a b : ByteArray) : (a.toList == b.toList) = decide (a = b) := by
  rw [Bool.eq_iff_iff, beq_iff_eq, decide_eq_true_eq, ByteArray.toList_eq, ByteArray.toList_eq]
  constructor
  · intro h
    apply ByteArray.ext
    exact Array.ext' h
  · intro h; rw [h]
set_option maxHeartbeats 2000000 in
theorem refFind_any (v : Value) (ax : List (ByteArray × ByteArray)) (n : ByteArray) (w : World) (hv : AttrsV w v ax) (hl : ax.length ≤ 4398046511104) :
    Calls Tryz.prog 46 #[v, .string n] w fun e w' => e = .returned (.int .i64 (findV (findA ax n))) ∧ w' = w := by
  obtain ⟨p, c, rfl, hk⟩ := hv
  have HIT := hide (fun k hk h e => find_hit (ax := ax) (n := n) (k := k) hk h e)
  have END := hide (fun h => find_none (ax := ax) (n := n) h)
  go_enter Tryz.func46, Tryz.ntmps46
  go_wp2_with fail
  go_loop [5] (fun iv => ∃ j : Nat, j ≤ ax.length ∧ iv = .int .i64 j ∧ Hid (∀ m (_ : m < ax.length), m < j → ¬ ax[m].1 = n)) (fun iv => ax.length - (intOf iv).toNat)
  case atStart => exact ⟨0, Nat.zero_le _, rfl, fun m _ h => by omega⟩
  case round =>
    obtain ⟨j, hj, rfl, hd⟩ := hrel
    by_cases h : j < ax.length
    · have i1 : (j : Int) < (ax.length : Int) := by omega
      rcases hk with hk | ⟨b, o, rfl, hk⟩
      · subst hk; simp at h
      have hc := (hk j h).1
      by_cases e : ax[j].1 = n
      · have E := hide (HIT.out j h hd.out e)
        have d : (ax[j].1.toList == n.toList) = true := by rw [txt_beq]; exact decide_eq_true e
        clear e hd HIT END hk
        generalize ax[j].1 = aj at *
        go_wp2_with fail
        go_ret
        exact ⟨by rw [E.out]; rfl, rfl⟩
      · have d : (ax[j].1.toList == n.toList) = false := by rw [txt_beq]; exact decide_eq_false e
        have hd' : Hid (∀ m (_ : m < ax.length), m < j + 1 → ¬ ax[m].1 = n) := by
          intro m hm hmj
          rcases Nat.lt_or_ge m j with q | q
          · exact hd.out m hm q
          · obtain rfl : m = j := by omega
            exact e
        clear e hd HIT END hk
        generalize ax[j].1 = aj at *
        go_wp2_with fail
        go_round
        case rel => exact ⟨j + 1, by omega, by go_num, hd'⟩
        case measure => simp [intOf]; omega
    · obtain rfl : j = ax.length := by omega
      have E := hide (END.out (fun m hm => hd.out m hm hm))
      clear hd HIT END hk
      go_wp2_with fail
      go_ret
      exact ⟨by rw [E.out]; rfl, rfl⟩
def isN (n : ByteArray) (x : ByteArray × ByteArray) : Bool := decide (x.1 = n)
/-- A function value that answers p of attributes, in every later world. -/
def PredA (g : Nat) (lb : Array Value) (p : ByteArray × ByteArray → Bool) (w : World) : Prop :=
  ∀ (W : World) (x : ByteArray × ByteArray), Below w.heap.size w W → Calls Tryz.prog g (#[.agg #[.string x.1, .string x.2]] ++ lb) W fun e w' => e = .returned (.bool (p x)) ∧ Below W.heap.size W w'
theorem PredA.later {g : Nat} {lb : Array Value} {p : ByteArray × ByteArray → Bool} {w w' : World} (h : PredA g lb p w) (hb : Below w.heap.size w w') : PredA g lb p w' := fun W x q => h W x (chain hb q)
theorem idx_hit {ax : List (ByteArray × ByteArray)} {p : ByteArray × ByteArray → Bool} {k : Nat} (h : k < ax.length) (hp : p ax[k] = true) (hd : ∀ j (hj : j < ax.length), j < k → p ax[j] = false) : ax.findIdx? p = some k := by
  rw [List.findIdx?_eq_some_iff_getElem]
  exact ⟨h, hp, fun j hj => by rw [hd j (by omega) hj]; decide⟩
theorem idx_miss {ax : List (ByteArray × ByteArray)} {p : ByteArray × ByteArray → Bool} (hd : ∀ j (hj : j < ax.length), p ax[j] = false) : ax.findIdx? p = none := by
  rw [List.findIdx?_eq_none_iff]
  intro x hx
  obtain ⟨j, hj, rfl⟩ := List.getElem_of_mem hx
  exact hd j hj
set_option maxHeartbeats 2000000 in
theorem indexFuncA_any (v : Value) (ax : List (ByteArray × ByteArray)) (p : ByteArray × ByteArray → Bool) (g : Nat) (lb : Array Value) (eg : ∀ args w, (callFunc g args).run Tryz.prog w = .ok (.enter g args) w) (w : World) (hv : AttrsV w v ax) (hp : PredA g lb p w) (hl : ax.length ≤ 4398046511104) :
    Calls Tryz.prog 56 #[v, .func (.func g) #[] lb] w fun e w' => e = .returned (.int .i64 (findV (ax.findIdx? p))) ∧ Below w.heap.size w w' := by
  obtain ⟨pp, c, rfl, hv⟩ := hv
  have HIT := hide (fun k h h1 h2 => idx_hit (ax := ax) (p := p) (k := k) h h1 h2)
  have MISS := hide (fun h => idx_miss (ax := ax) (p := p) h)
  generalize ax.findIdx? p = R at *
  have HP := hide hp
  clear hp
  go_enter Tryz.func56, Tryz.ntmps56
  go_wp2_with fail
  go_loopw [8] (fun iv wr => ∃ k : Nat, k ≤ ax.length ∧ iv = .int .i64 k ∧ Hid (∀ j (hj : j < ax.length), j < k → p ax[j] = false) ∧ Hid (Below w.heap.size w wr)) (fun iv _ => ax.length - (intOf iv).toNat)
  case atStart => exact ⟨0, Nat.zero_le _, rfl, fun j _ q => by omega, Below.refl _ _⟩
  case round =>
    rename World => wr
    obtain ⟨k, hk, rfl, hd, BW⟩ := hrel
    by_cases h : k < ax.length
    · have i1 : (k : Int) < (ax.length : Int) := by omega
      rcases hv with hv | ⟨b, o, rfl, hv⟩
      · rw [hv] at h; simp at h
      have c0 := cell_below (hv k h).1 BW.out
      have c1 := cell_below (hv k h).2 BW.out
      have HC := hide (HP.out wr ax[k] BW.out)
      have HK := hide (HIT.out k h)
      have ND := hide (fun q : p ax[k] = false => (fun j (hj : j < ax.length) (r : j < k + 1) => by
        rcases Nat.lt_or_ge j k with t | t
        · exact hd.out j hj t
        · obtain rfl : j = k := by omega
          exact q : ∀ j (hj : j < ax.length), j < k + 1 → p ax[j] = false))
      clear hv HP HIT MISS
      cases q : p ax[k] with
      | true =>
        have E := hide (HK.out q (fun j hj r => hd.out j hj r))
        rw [q] at HC
        clear HK ND q hd
        generalize ax[k].1 = x1 at *
        generalize ax[k].2 = x2 at *
        go_wp2_with fail
        refine HC.out.mono ?_
        rintro e w' ⟨rfl, hb'⟩
        go_wp2_with fail
        go_ret
        exact ⟨by rw [E.out]; rfl, chain BW.out hb'⟩
      | false =>
        have E := hide (ND.out q)
        rw [q] at HC
        clear HK ND q hd
        generalize ax[k].1 = x1 at *
        generalize ax[k].2 = x2 at *
        go_wp2_with fail
        refine HC.out.mono ?_
        rintro e w' ⟨rfl, hb'⟩
        go_wp2_with fail
        go_roundw
        case rel => exact ⟨k + 1, by omega, by go_num, E, chain BW.out hb'⟩
        case measure => simp [intOf]; omega
    · obtain rfl : k = ax.length := by omega
      have E := hide (MISS.out (fun j hj => hd.out j hj hj))
      clear HIT MISS hd hv HP h
      go_wp2_with fail
      go_ret
      exact ⟨by rw [E.out]; rfl, BW.out⟩
theorem findV_nonneg (o : Option Nat) : decide (0 ≤ findV o) = o.isSome := by
  cases o with
  | none => rfl
  | some k => exact decide_eq_true (by show (0 : Int) ≤ (k : Int); omega)
set_option maxHeartbeats 8000000 in
theorem containsFuncA_any (v : Value) (ax : List (ByteArray × ByteArray)) (p : ByteArray × ByteArray → Bool) (g : Nat) (lb : Array Value) (eg : ∀ args w, (callFunc g args).run Tryz.prog w = .ok (.enter g args) w) (w : World) (hv : AttrsV w v ax) (hp : PredA g lb p w) (hl : ax.length ≤ 4398046511104) :
    Calls Tryz.prog 111 #[v, .func (.func g) #[] lb] w fun e w' => e = .returned (.bool (ax.findIdx? p).isSome) ∧ Below w.heap.size w w' := by
  have HI := hide (indexFuncA_any v ax p g lb eg w hv hp hl)
  have E := hide (findV_nonneg (ax.findIdx? p))
  generalize (ax.findIdx? p).isSome = R at *
  generalize findV (ax.findIdx? p) = z at *
  clear hv hp
  go_enter Tryz.func111, Tryz.ntmps111
  go_wp2_with fail
  refine HI.out.mono ?_
  rintro e w1 ⟨rfl, b1⟩
  go_wp2_with fail
  go_ret
  exact ⟨ret_bool E.out, b1⟩
end Go.Proofs.YtfjfkkbgkjmghaaGreatDoor

namespace Go.Proofs.YtfjfkkbgkjmghaaGreatDoor
open Go.RowKit
set_option maxRecDepth 100000
/-- A number, and whether there is one. -/
def optV (o : Option Int) : Value := .tuple #[.int .i64 (optI o), .bool o.isSome]
def txtV (o : Option (List UInt8)) : Value := .tuple #[.string (txt (o.getD [])), .bool o.isSome]
theorem ret_opt {a : Int} {b : Bool} {o : Option Int} (h : a = optI o) (g : b = o.isSome) : Ending.returned (.tuple #[.int .i64 a, .bool b]) = .returned (optV o) := by rw [h, g]; rfl
theorem ret_st {a : ByteArray} {b : Bool} {o : Option (List UInt8)} (h : a = txt (o.getD [])) (g : b = o.isSome) : Ending.returned (.tuple #[.string a, .bool b]) = .returned (txtV o) := by rw [h, g]; rfl
theorem belQ (w : World) (q : Nat) : Below w.heap.size w (w.drewN q) := ⟨rfl, rfl, rfl, Nat.le_refl _, fun _ _ => rfl⟩
/-- Attributes that a statement takes. -/
structure AxOK (ax : List (ByteArray × ByteArray)) : Prop where
  len : ax.length ≤ 4398046511104
  val : ∀ a ∈ ax, a.2.size ≤ 100000
set_option maxHeartbeats 4000000 in
set_option maxRecDepth 100000 in
theorem refValue_any (k : Int) (s : ByteArray) (w : World) (hs : s.size ≤ 100000) :
    Calls Tryz.prog 43 #[.int .i64 k, .string s] w fun e w' => e = .returned (optV (numK k s.data.toList)) ∧ Below w.heap.size w w' := by
  by_cases h : k = 13 ∨ k = 14
  · have E1 : Hid (numK k s.data.toList = okP (parseV s.data.toList)) := if_pos h
    have E2 := hide (parse_opt s.data.toList)
    have HP := hide (fun W => refParse_any s W (by omega))
    generalize parseV s.data.toList = r at *
    rcases h with rfl | rfl
    all_goals
      go_enter Tryz.func43, Tryz.ntmps43
      go_wp2_with fail
      refine (HP.out _).mono ?_
      rintro e u ⟨rfl, rfl⟩
      go_wp2_with fail
      go_ret2
      exact ⟨by rw [E1.out]; exact ret_opt E2.out.1 E2.out.2, Below.refl _ _⟩
  · have n13 : ¬ k = 13 := fun q => h (.inl q)
    have n14 : ¬ k = 14 := fun q => h (.inr q)
    have b13 : (k == 13) = false := beq_eq_false_iff_ne.2 n13
    have b14 : (k == 14) = false := beq_eq_false_iff_ne.2 n14
    by_cases h2 : 8 ≤ k ∧ k ≤ 12
    · have E1 : Hid (numK k s.data.toList = momT (k - 7) s.data.toList) := by show _ = _; unfold numK; rw [if_neg h, if_pos h2]
      have E2 := hide (mom_opt (k := k - 7) (by omega) s.data.toList)
      have HP := hide (fun W => refMom_any (k - 8 + 1) s W hs)
      rw [show k - 8 + 1 = k - 7 by omega] at HP
      have HP2 : Hid (∀ W, Calls Tryz.prog 66 #[.int .i64 (k - 8 + 1), .string s] W fun e w' => e = .returned (.tuple #[.int .i64 (momV (k - 7) s.data.toList).1, .int .i64 (momV (k - 7) s.data.toList).2]) ∧ ∃ q, w' = W.drewN q) := fun W => by
        rw [show k - 8 + 1 = k - 7 by omega]; exact HP.out W
      clear HP
      generalize momV (k - 7) s.data.toList = r at *
      have h3 := h2.1
      have h4 : k ≤ 14 := by omega
      have h5 : k ≤ 12 := h2.2
      clear h h2
      go_enter Tryz.func43, Tryz.ntmps43
      go_wp2_with fail
      refine (HP2.out _).mono ?_
      rintro e u ⟨rfl, q, rfl⟩
      go_wp2_with fail
      go_ret2
      exact ⟨by rw [E1.out]; exact ret_opt E2.out.1 E2.out.2, belQ _ _⟩
    · have E1 : Hid (numK k s.data.toList = none) := by show _ = _; unfold numK; rw [if_neg h, if_neg h2]
      rcases (show k < 8 ∨ 14 < k by omega) with q | q
      · clear h h2
        go_enter Tryz.func43, Tryz.ntmps43
        go_wp2_with fail
        go_ret2
        exact ⟨by rw [E1.out]; rfl, Below.refl _ _⟩
      · have q8 : ¬ k < 8 := by omega
        have d8 : decide (k < 8) = false := decide_eq_false q8
        clear h h2
        go_enter Tryz.func43, Tryz.ntmps43
        go_wp2_with fail
        go_ret2
        exact ⟨by rw [E1.out]; rfl, Below.refl _ _⟩
set_option maxHeartbeats 4000000 in
set_option maxRecDepth 100000 in
theorem refShowK_any {k n : Int} {o : Option (List UInt8)} (h : ShK k n o) (w : World) (n1 : -9223372036854775808 ≤ n) (n2 : n ≤ 9223372036854775807) :
    Calls Tryz.prog 48 #[.int .i64 k, .int .i64 n] w fun e w' => e = .returned (txtV o) ∧ Below w.heap.size w w' := by
  rcases h with ⟨h, h1⟩ | ⟨h, h1⟩ | ⟨h, rfl⟩
  · rcases h1 with ⟨q1, q2, rfl⟩ | ⟨q, rfl⟩
    · have HS := hide (fun W => refShow_any n W n1 n2)
      have g1 : ¬ 1000000000000000000 < n := by omega
      have g2 : ¬ n < -1000000000000000000 := by omega
      have d1 : decide (1000000000000000000 < n) = false := decide_eq_false g1
      have d2 : decide (n < -1000000000000000000) = false := decide_eq_false g2
      have E : Hid (txt (showL n) = txt ((some (showL n)).getD [])) := rfl
      generalize txt (showL n) = t at *
      rcases h with rfl | rfl
      all_goals
        go_enter Tryz.func48, Tryz.ntmps48
        go_wp2_with fail
        refine (HS.out _).mono ?_
        rintro e u ⟨rfl, b1⟩
        go_wp2_with fail
        go_ret2
        exact ⟨ret_st E.out rfl, b1⟩
    · rcases (show 1000000000000000000 < n ∨ n < -1000000000000000000 by omega) with g1 | g2
      · rcases h with rfl | rfl
        all_goals
          clear q
          go_enter Tryz.func48, Tryz.ntmps48
          go_wp2_with fail
          go_ret2
          exact ⟨rfl, Below.refl _ _⟩
      · have g1 : ¬ 1000000000000000000 < n := by omega
        have d1 : decide (1000000000000000000 < n) = false := decide_eq_false g1
        rcases h with rfl | rfl
        all_goals
          clear q
          go_enter Tryz.func48, Tryz.ntmps48
          go_wp2_with fail
          go_ret2
          exact ⟨rfl, Below.refl _ _⟩
  · have b13 : (k == 13) = false := by rw [beq_eq_false_iff_ne]; omega
    have b14 : (k == 14) = false := by rw [beq_eq_false_iff_ne]; omega
    have n13 : ¬ k = 13 := by omega
    have n14 : ¬ k = 14 := by omega
    have h3 := h.1
    have h4 : k ≤ 14 := by omega
    have h5 : k ≤ 12 := h.2
    clear h
    rcases h1 with ⟨t, ht, rfl⟩ | ⟨hn, rfl⟩
    · have HS : Hid (∀ W, Calls Tryz.prog 71 #[.int .i64 (k - 8 + 1), .int .i64 n] W fun e w' => e = .returned (.tuple #[.string (txt t), .int .i64 0]) ∧ Below W.heap.size W w') := fun W => by
        rw [show k - 8 + 1 = k - 7 by omega]; exact refShow_yes ht W n1 n2
      have E : Hid (txt t = txt ((some t).getD [])) := rfl
      generalize txt t = x at *
      clear ht
      go_enter Tryz.func48, Tryz.ntmps48
      go_wp2_with fail
      refine (HS.out _).mono ?_
      rintro e u ⟨rfl, b1⟩
      go_wp2_with fail
      go_ret2
      exact ⟨ret_st E.out rfl, b1⟩
    · have HS : Hid (∀ W, Calls Tryz.prog 71 #[.int .i64 (k - 8 + 1), .int .i64 n] W fun e w' => e = .returned (.tuple #[.string ⟨#[]⟩, .int .i64 2]) ∧ Below W.heap.size W w') := fun W => by
        rw [show k - 8 + 1 = k - 7 by omega]; exact refShow_no hn W n1 n2
      clear hn
      go_enter Tryz.func48, Tryz.ntmps48
      go_wp2_with fail
      refine (HS.out _).mono ?_
      rintro e u ⟨rfl, b1⟩
      go_wp2_with fail
      go_ret2
      exact ⟨rfl, b1⟩
  · have b13 : (k == 13) = false := by rw [beq_eq_false_iff_ne]; omega
    have b14 : (k == 14) = false := by rw [beq_eq_false_iff_ne]; omega
    have n13 : ¬ k = 13 := by omega
    have n14 : ¬ k = 14 := by omega
    rcases (show k < 8 ∨ 14 < k by omega) with q | q
    · clear h
      go_enter Tryz.func48, Tryz.ntmps48
      go_wp2_with fail
      go_ret2
      exact ⟨rfl, Below.refl _ _⟩
    · have q8 : ¬ k < 8 := by omega
      have d8 : decide (k < 8) = false := decide_eq_false q8
      clear h
      go_enter Tryz.func48, Tryz.ntmps48
      go_wp2_with fail
      go_ret2
      exact ⟨rfl, Below.refl _ _⟩
set_option maxHeartbeats 4000000 in
set_option maxRecDepth 100000 in
theorem refAttrK_any (k : Int) (v : Value) (ax : List (ByteArray × ByteArray)) (name : ByteArray) (w : World) (hv : AttrsV w v ax) (hz : AxOK ax) :
    Calls Tryz.prog 103 #[.int .i64 k, v, .string name] w fun e w' => e = .returned (optV (attrK k ax name)) ∧ Below w.heap.size w w' := by
  have HF := hide (refFind_any v ax name w hv hz.len)
  obtain ⟨p, c, rfl, hv⟩ := hv
  cases hf : findA ax name with
  | none =>
    rw [hf, show findV none = -1 from rfl] at HF
    have E : Hid (attrK k ax name = none) := by show _ = _; unfold attrK; rw [hf]; rfl
    clear hf hv hz
    go_enter Tryz.func103, Tryz.ntmps103
    go_wp2_with fail
    refine HF.out.mono ?_
    rintro e u ⟨rfl, hu⟩
    obtain rfl : w = u := hu.symm
    go_wp2_with fail
    go_ret2
    exact ⟨by rw [E.out]; rfl, Below.refl _ _⟩
  | some i =>
    rw [hf, show findV (some i) = (i : Int) from rfl] at HF
    obtain ⟨hi, _, _⟩ := List.findIdx?_eq_some_iff_getElem.1 (show ax.findIdx? (isN name) = some i from hf)
    have E : Hid (attrK k ax name = numK k ax[i].2.data.toList) := by
      show _ = _
      unfold attrK
      rw [hf]
      show numK k (ax.getD i at0).2.data.toList = _
      rw [show ax.getD i at0 = ax[i] by simp [List.getD, hi]]
    have HV := hide (fun W => refValue_any k ax[i].2 W (hz.val _ (List.getElem_mem hi)))
    obtain ⟨b, o, rfl, hv2⟩ : ∃ b o, p = some ⟨b, o, none⟩ ∧ ∀ i (h : i < ax.length), w.cell? ⟨b, o + i * 2, none⟩ = some (.string ax[i].1) ∧ w.cell? ⟨b, o + i * 2 + 1, none⟩ = some (.string ax[i].2) := by
      rcases hv with t | t
      · rw [t] at hi; simp at hi
      · exact t
    have c1 := (hv2 i hi).2
    have i0 : (0 : Int) ≤ (i : Int) := by omega
    have i1 : (i : Int) < (ax.length : Int) := by omega
    have i2 : ¬ (i : Int) < 0 := by omega
    rw [← E.out] at HV
    generalize ax[i].2 = t at *
    generalize attrK k ax name = r at *
    clear hf hv hv2 hz E
    unfold optV at *
    go_enter Tryz.func103, Tryz.ntmps103
    go_wp2_with fail
    refine HF.out.mono ?_
    rintro e u ⟨rfl, hu⟩
    obtain rfl : w = u := hu.symm
    go_wp2_with fail
    refine (HV.out _).mono ?_
    rintro e u1 ⟨rfl, b1⟩
    go_wp2_with fail
    go_ret2
    exact ⟨rfl, b1⟩
set_option maxHeartbeats 4000000 in
set_option maxRecDepth 100000 in
theorem refLeastK_any (k : Int) (v : Value) (ax : List (ByteArray × ByteArray)) (w : World) (hv : AttrsV w v ax) (hz : AxOK ax) :
    Calls Tryz.prog 72 #[.int .i64 k, v] w fun e w' => e = .returned (optV (leastK k ax)) ∧ Below w.heap.size w w' := by
  have HA := hide (refAttrK_any k v ax minS w hv hz)
  have E : Hid (leastK k ax = if (attrK k ax minS).isSome then attrK k ax minS else if k = 14 then some 0 else none) := rfl
  rw [show minS = ⟨#[109, 105, 110]⟩ from rfl] at HA
  rw [show minS = ⟨#[109, 105, 110]⟩ from rfl] at E
  generalize leastK k ax = L at *
  generalize attrK k ax ⟨#[109, 105, 110]⟩ = A at *
  clear hv hz
  cases A with
  | some n =>
    have e : L = some n := E.out
    subst e
    clear E
    go_enter Tryz.func72, Tryz.ntmps72
    go_wp2_with fail
    refine HA.out.mono ?_
    rintro e u ⟨rfl, b1⟩
    unfold optV
    go_wp2_with fail
    go_ret2
    exact ⟨rfl, b1⟩
  | none =>
    by_cases h : k = 14
    · have e : L = some 0 := by rw [E.out]; exact if_pos h
      subst e h
      clear E
      go_enter Tryz.func72, Tryz.ntmps72
      go_wp2_with fail
      refine HA.out.mono ?_
      rintro e u ⟨rfl, b1⟩
      unfold optV
      go_wp2_with fail
      go_ret2
      exact ⟨rfl, b1⟩
    · have e : L = none := by rw [E.out]; exact if_neg h
      have b14 : (k == 14) = false := beq_eq_false_iff_ne.2 h
      subst e
      clear E
      go_enter Tryz.func72, Tryz.ntmps72
      go_wp2_with fail
      refine HA.out.mono ?_
      rintro e u ⟨rfl, b1⟩
      unfold optV
      go_wp2_with fail
      go_ret2
      exact ⟨rfl, b1⟩
set_option maxHeartbeats 4000000 in
set_option maxRecDepth 100000 in
theorem refMostK_any (k : Int) (v : Value) (ax : List (ByteArray × ByteArray)) (w : World) (hv : AttrsV w v ax) (hz : AxOK ax) :
    Calls Tryz.prog 73 #[.int .i64 k, v] w fun e w' => e = .returned (optV (mostK k ax)) ∧ Below w.heap.size w w' := by
  have HA := hide (refAttrK_any k v ax maxS w hv hz)
  have HL := hide (fun W (hb : Below w.heap.size w W) => refLeastK_any k v ax W (hv.below hb) hz)
  have E : Hid (mostK k ax = if (attrK k ax maxS).isSome then attrK k ax maxS else if k = 14 then some (if 100000000 < optI (leastK k ax) then optI (leastK k ax) else 100000000) else none) := rfl
  rw [show maxS = ⟨#[109, 97, 120]⟩ from rfl] at HA
  rw [show maxS = ⟨#[109, 97, 120]⟩ from rfl] at E
  generalize mostK k ax = L at *
  generalize attrK k ax ⟨#[109, 97, 120]⟩ = A at *
  generalize leastK k ax = Lo at *
  clear hv hz
  cases A with
  | some n =>
    have e : L = some n := E.out
    subst e
    clear E HL
    go_enter Tryz.func73, Tryz.ntmps73
    go_wp2_with fail
    refine HA.out.mono ?_
    rintro e u ⟨rfl, b1⟩
    unfold optV
    go_wp2_with fail
    go_ret2
    exact ⟨rfl, b1⟩
  | none =>
    by_cases h : k = 14
    · have e : L = some (if 100000000 < optI Lo then optI Lo else 100000000) := by rw [E.out]; exact if_pos h
      subst h
      clear E
      unfold optV at HL
      generalize optI Lo = lo at *
      generalize Lo.isSome = is at *
      by_cases q : 100000000 < lo
      · rw [if_pos q] at e
        subst e
        go_enter Tryz.func73, Tryz.ntmps73
        go_wp2_with fail
        refine HA.out.mono ?_
        rintro e u ⟨rfl, b1⟩
        unfold optV
        go_wp2_with fail
        refine (HL.out _ b1).mono ?_
        rintro e u2 ⟨rfl, b2⟩
        go_wp2_with fail
        go_ret2
        exact ⟨rfl, chain b1 b2⟩
      · rw [if_neg q] at e
        subst e
        have dq : decide (100000000 < lo) = false := decide_eq_false q
        go_enter Tryz.func73, Tryz.ntmps73
        go_wp2_with fail
        refine HA.out.mono ?_
        rintro e u ⟨rfl, b1⟩
        unfold optV
        go_wp2_with fail
        refine (HL.out _ b1).mono ?_
        rintro e u2 ⟨rfl, b2⟩
        go_wp2_with fail
        go_ret2
        exact ⟨rfl, chain b1 b2⟩
    · have e : L = none := by rw [E.out]; exact if_neg h
      have b14 : (k == 14) = false := beq_eq_false_iff_ne.2 h
      subst e
      clear E HL
      go_enter Tryz.func73, Tryz.ntmps73
      go_wp2_with fail
      refine HA.out.mono ?_
      rintro e u ⟨rfl, b1⟩
      unfold optV
      go_wp2_with fail
      go_ret2
      exact ⟨rfl, b1⟩
set_option maxHeartbeats 4000000 in
set_option maxRecDepth 100000 in
theorem refBaseK_any (k : Int) (v : Value) (ax : List (ByteArray × ByteArray)) (w : World) (hv : AttrsV w v ax) (hz : AxOK ax) :
    Calls Tryz.prog 75 #[.int .i64 k, v] w fun e w' => e = .returned (.int .i64 (baseK k ax)) ∧ Below w.heap.size w w' := by
  have HA := hide (refAttrK_any k v ax minS w hv hz)
  have HB := hide (fun W (hb : Below w.heap.size w W) => refAttrK_any k v ax valS W (hv.below hb) hz)
  have E : Hid (baseK k ax = if (attrK k ax minS).isSome then optI (attrK k ax minS) else if (attrK k ax valS).isSome then optI (attrK k ax valS) else if k = 10 then -259200000 else 0) := rfl
  rw [show minS = ⟨#[109, 105, 110]⟩ from rfl] at HA E
  rw [show valS = ⟨#[118, 97, 108, 117, 101]⟩ from rfl] at HB E
  generalize baseK k ax = L at *
  generalize attrK k ax ⟨#[109, 105, 110]⟩ = A at *
  generalize attrK k ax ⟨#[118, 97, 108, 117, 101]⟩ = C at *
  clear hv hz
  cases A with
  | some n =>
    have e : L = n := E.out
    subst e
    clear E HB
    go_enter Tryz.func75, Tryz.ntmps75
    go_wp2_with fail
    refine HA.out.mono ?_
    rintro e u ⟨rfl, b1⟩
    unfold optV
    go_wp2_with fail
    go_ret
    exact ⟨rfl, b1⟩
  | none =>
    cases C with
    | some n =>
      have e : L = n := E.out
      subst e
      clear E
      go_enter Tryz.func75, Tryz.ntmps75
      go_wp2_with fail
      refine HA.out.mono ?_
      rintro e u ⟨rfl, b1⟩
      unfold optV
      go_wp2_with fail
      refine (HB.out _ b1).mono ?_
      rintro e u2 ⟨rfl, b2⟩
      unfold optV
      go_wp2_with fail
      go_ret
      exact ⟨rfl, chain b1 b2⟩
    | none =>
      by_cases h : k = 10
      · have e : L = -259200000 := by rw [E.out]; exact if_pos h
        subst e h
        clear E
        go_enter Tryz.func75, Tryz.ntmps75
        go_wp2_with fail
        refine HA.out.mono ?_
        rintro e u ⟨rfl, b1⟩
        unfold optV
        go_wp2_with fail
        refine (HB.out _ b1).mono ?_
        rintro e u2 ⟨rfl, b2⟩
        unfold optV
        go_wp2_with fail
        go_ret
        exact ⟨rfl, chain b1 b2⟩
      · have e : L = 0 := by rw [E.out]; exact if_neg h
        have b10 : (k == 10) = false := beq_eq_false_iff_ne.2 h
        subst e
        clear E
        go_enter Tryz.func75, Tryz.ntmps75
        go_wp2_with fail
        refine HA.out.mono ?_
        rintro e u ⟨rfl, b1⟩
        unfold optV
        go_wp2_with fail
        refine (HB.out _ b1).mono ?_
        rintro e u2 ⟨rfl, b2⟩
        unfold optV
        go_wp2_with fail
        go_ret
        exact ⟨rfl, chain b1 b2⟩

end Go.Proofs.YtfjfkkbgkjmghaaGreatDoor
