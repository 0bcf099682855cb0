/- Attributes of an element found by a name: the document's Find, and slices.IndexFunc of a row of attributes: the first place; what lay in the world lies there still. No condition but a row that lies in the world, of at most 2^47 bytes. -/
import Derived.Test.YtnnnmfiniminfaaDoorRows
import Derived.Test.YtnnnmfiniminfaaDoorDocM
import Derived.Shelf.Abstract
namespace Go.Proofs.YtnnnmfiniminfaaDoor
open Go.RowKit

theorem find_hit {ax : List (ByteArray × ByteArray)} {n : ByteArray} {k : Nat} (hk : k < ax.length) (h : ∀ j (_ : j < ax.length), j < k → ¬ ax[j].1 = n) (e : ax[k].1 = n) : findA ax n = some k := by
  unfold findA
  rw [List.findIdx?_eq_some_iff_getElem]
  exact ⟨hk, decide_eq_true e, fun j hj => by have := h j (by omega) hj; simpa using this⟩
theorem find_none {ax : List (ByteArray × ByteArray)} {n : ByteArray} (h : ∀ j (_ : j < ax.length), ¬ ax[j].1 = n) : findA ax n = none := by
  unfold findA
  rw [List.findIdx?_eq_none_iff]
  intro a ha
  obtain ⟨j, hj, rfl⟩ := List.getElem_of_mem ha
  simpa using h j hj
theorem txt_beq (a b : ByteArray) : (a.toList == b.toList) = decide (a = b) := by
  rw [Bool.eq_iff_iff, beq_iff_eq, decide_eq_true_eq, ByteArray.toList_eq, ByteArray.toList_eq]
  constructor
  · intro h
    apply ByteArray.ext
    exact Array.ext' h
  · intro h; rw [h]
set_option maxHeartbeats 2000000 in
theorem refFind_any (v : Value) (ax : List (ByteArray × ByteArray)) (n : ByteArray) (w : World) (hv : AttrsV w v ax) (hl : ax.length ≤ 4398046511104) :
    Calls Tryd.prog 26 #[v, .string n] w fun e w' => e = .returned (.int .i64 (findV (findA ax n))) ∧ w' = w := by
  obtain ⟨p, c, rfl, hk⟩ := hv
  have HIT := hide (fun k hk h e => find_hit (ax := ax) (n := n) (k := k) hk h e)
  have END := hide (fun h => find_none (ax := ax) (n := n) h)
  go_enter Tryd.func26, Tryd.ntmps26
  go_wp2_with fail
  go_loop [5] (fun iv => ∃ j : Nat, j ≤ ax.length ∧ iv = .int .i64 j ∧ Hid (∀ m (_ : m < ax.length), m < j → ¬ ax[m].1 = n)) (fun iv => ax.length - (intOf iv).toNat)
  case atStart => exact ⟨0, Nat.zero_le _, rfl, fun m _ h => by omega⟩
  case round =>
    obtain ⟨j, hj, rfl, hd⟩ := hrel
    by_cases h : j < ax.length
    · have i1 : (j : Int) < (ax.length : Int) := by omega
      rcases hk with hk | ⟨b, o, rfl, hk⟩
      · subst hk; simp at h
      have hc := (hk j h).1
      by_cases e : ax[j].1 = n
      · have E := hide (HIT.out j h hd.out e)
        have d : (ax[j].1.toList == n.toList) = true := by rw [txt_beq]; exact decide_eq_true e
        clear e hd HIT END hk
        generalize ax[j].1 = aj at *
        go_wp2_with fail
        go_ret
        exact ⟨by rw [E.out]; rfl, rfl⟩
      · have d : (ax[j].1.toList == n.toList) = false := by rw [txt_beq]; exact decide_eq_false e
        have hd' : Hid (∀ m (_ : m < ax.length), m < j + 1 → ¬ ax[m].1 = n) := by
          intro m hm hmj
          rcases Nat.lt_or_ge m j with q | q
          · exact hd.out m hm q
          · obtain rfl : m = j := by omega
            exact e
        clear e hd HIT END hk
        generalize ax[j].1 = aj at *
        go_wp2_with fail
        go_round
        case rel => exact ⟨j + 1, by omega, by go_num, hd'⟩
        case measure => simp [intOf]; omega
    · obtain rfl : j = ax.length := by omega
      have E := hide (END.out (fun m hm => hd.out m hm hm))
      clear hd HIT END hk
      go_wp2_with fail
      go_ret
      exact ⟨by rw [E.out]; rfl, rfl⟩
def isN (n : ByteArray) (x : ByteArray × ByteArray) : Bool := decide (x.1 = n)
/-- A function value that answers p of attributes, in every later world. -/
def PredA (g : Nat) (lb : Array Value) (p : ByteArray × ByteArray → Bool) (w : World) : Prop :=
  ∀ (W : World) (x : ByteArray × ByteArray), Below w.heap.size w W → Calls Tryd.prog g (#[.agg #[.string x.1, .string x.2]] ++ lb) W fun e w' => e = .returned (.bool (p x)) ∧ Below W.heap.size W w'
theorem PredA.later {g : Nat} {lb : Array Value} {p : ByteArray × ByteArray → Bool} {w w' : World} (h : PredA g lb p w) (hb : Below w.heap.size w w') : PredA g lb p w' := fun W x q => h W x (chain hb q)
theorem idx_hit {ax : List (ByteArray × ByteArray)} {p : ByteArray × ByteArray → Bool} {k : Nat} (h : k < ax.length) (hp : p ax[k] = true) (hd : ∀ j (hj : j < ax.length), j < k → p ax[j] = false) : ax.findIdx? p = some k := by
  rw [List.findIdx?_eq_some_iff_getElem]
  exact ⟨h, hp, fun j hj => by rw [hd j (by omega) hj]; decide⟩
theorem idx_miss {ax : List (ByteArray × ByteArray)} {p : ByteArray × ByteArray → Bool} (hd : ∀ j (hj : j < ax.length), p ax[j] = false) : ax.findIdx? p = none := by
  rw [List.findIdx?_eq_none_iff]
  intro x hx
  obtain ⟨j, hj, rfl⟩ := List.getElem_of_mem hx
  exact hd j hj
set_option maxHeartbeats 2000000 in
theorem indexFuncA_any (v : Value) (ax : List (ByteArray × ByteArray)) (p : ByteArray × ByteArray → Bool) (g : Nat) (lb : Array Value) (eg : ∀ args w, (callFunc g args).run Tryd.prog w = .ok (.enter g args) w) (w : World) (hv : AttrsV w v ax) (hp : PredA g lb p w) (hl : ax.length ≤ 4398046511104) :
    Calls Tryd.prog 35 #[v, .func (.func g) #[] lb] w fun e w' => e = .returned (.int .i64 (findV (ax.findIdx? p))) ∧ Below w.heap.size w w' := by
  obtain ⟨pp, c, rfl, hv⟩ := hv
  have HIT := hide (fun k h h1 h2 => idx_hit (ax := ax) (p := p) (k := k) h h1 h2)
  have MISS := hide (fun h => idx_miss (ax := ax) (p := p) h)
  generalize ax.findIdx? p = R at *
  have HP := hide hp
  clear hp
  go_enter Tryd.func35, Tryd.ntmps35
  go_wp2_with fail
  go_loopw [8] (fun iv wr => ∃ k : Nat, k ≤ ax.length ∧ iv = .int .i64 k ∧ Hid (∀ j (hj : j < ax.length), j < k → p ax[j] = false) ∧ Hid (Below w.heap.size w wr)) (fun iv _ => ax.length - (intOf iv).toNat)
  case atStart => exact ⟨0, Nat.zero_le _, rfl, fun j _ q => by omega, Below.refl _ _⟩
  case round =>
    rename World => wr
    obtain ⟨k, hk, rfl, hd, BW⟩ := hrel
    by_cases h : k < ax.length
    · have i1 : (k : Int) < (ax.length : Int) := by omega
      rcases hv with hv | ⟨b, o, rfl, hv⟩
      · rw [hv] at h; simp at h
      have c0 := cell_below (hv k h).1 BW.out
      have c1 := cell_below (hv k h).2 BW.out
      have HC := hide (HP.out wr ax[k] BW.out)
      have HK := hide (HIT.out k h)
      have ND := hide (fun q : p ax[k] = false => (fun j (hj : j < ax.length) (r : j < k + 1) => by
        rcases Nat.lt_or_ge j k with t | t
        · exact hd.out j hj t
        · obtain rfl : j = k := by omega
          exact q : ∀ j (hj : j < ax.length), j < k + 1 → p ax[j] = false))
      clear hv HP HIT MISS
      cases q : p ax[k] with
      | true =>
        have E := hide (HK.out q (fun j hj r => hd.out j hj r))
        rw [q] at HC
        clear HK ND q hd
        generalize ax[k].1 = x1 at *
        generalize ax[k].2 = x2 at *
        go_wp2_with fail
        refine HC.out.mono ?_
        rintro e w' ⟨rfl, hb'⟩
        go_wp2_with fail
        go_ret
        exact ⟨by rw [E.out]; rfl, chain BW.out hb'⟩
      | false =>
        have E := hide (ND.out q)
        rw [q] at HC
        clear HK ND q hd
        generalize ax[k].1 = x1 at *
        generalize ax[k].2 = x2 at *
        go_wp2_with fail
        refine HC.out.mono ?_
        rintro e w' ⟨rfl, hb'⟩
        go_wp2_with fail
        go_roundw
        case rel => exact ⟨k + 1, by omega, by go_num, E, chain BW.out hb'⟩
        case measure => simp [intOf]; omega
    · obtain rfl : k = ax.length := by omega
      have E := hide (MISS.out (fun j hj => hd.out j hj hj))
      clear HIT MISS hd hv HP h
      go_wp2_with fail
      go_ret
      exact ⟨by rw [E.out]; rfl, BW.out⟩

end Go.Proofs.YtnnnmfiniminfaaDoor
