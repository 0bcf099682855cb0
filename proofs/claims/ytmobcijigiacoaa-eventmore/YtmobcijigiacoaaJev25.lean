/- Attributes of an element found by a name. -/
import Derived.Test.YtmobcijigiacoaaJev11

namespace Go.Proofs.Ytmobcijigiacoaa
open Go.RowKit
set_option maxRecDepth 100000
theorem find_hit {ax : List (ByteArray × ByteArray)} {n : ByteArray} {k : Nat} (hk : k < ax.length) (h : ∀ j (_ : j < ax.length), j < k → ¬ ax[j].1 = n) (e : ax[k].1 = n) : findA ax n = some k := by
  unfold findA
  rw [List.findIdx?_eq_some_iff_getElem]
  exact ⟨hk, decide_eq_true e, fun j hj => by have := h j (by omega) hj; simpa using this⟩
theorem find_none {ax : List (ByteArray × ByteArray)} {n : ByteArray} (h : ∀ j (_ : j < ax.length), ¬ ax[j].1 = n) : findA ax n = none := by
  unfold findA
  rw [List.findIdx?_eq_none_iff]
  intro a ha
  obtain ⟨j, hj, rfl⟩ := List.getElem_of_mem ha
  simpa using h j hj
set_option maxHeartbeats 2000000 in
theorem refFind_any (v : Value) (ax : List (ByteArray × ByteArray)) (n : ByteArray) (w : World) (hv : AttrsV w v ax) (hl : ax.length ≤ 4398046511104) :
    Calls Try.prog 44 #[v, .string n] w fun e w' => e = .returned (.int .i64 (findV (findA ax n))) ∧ w' = w := by
  obtain ⟨p, c, rfl, hk⟩ := hv
  have HIT := hide (fun k hk h e => find_hit (ax := ax) (n := n) (k := k) hk h e)
  have END := hide (fun h => find_none (ax := ax) (n := n) h)
  go_enter Try.func44, Try.ntmps44
  go_wp2_with fail
  go_loop [5] (fun iv => ∃ j : Nat, j ≤ ax.length ∧ iv = .int .i64 j ∧ Hid (∀ m (_ : m < ax.length), m < j → ¬ ax[m].1 = n)) (fun iv => ax.length - (intOf iv).toNat)
  case atStart => exact ⟨0, Nat.zero_le _, rfl, fun m _ h => by omega⟩
  case round =>
    obtain ⟨j, hj, rfl, hd⟩ := hrel
    by_cases h : j < ax.length
    · have i1 : (j : Int) < (ax.length : Int) := by omega
      rcases hk with hk | ⟨b, o, rfl, hk⟩
      · subst hk; simp at h
      have hc := (hk j h).1
      by_cases e : ax[j].1 = n
      · have E := hide (HIT.out j h hd.out e)
        have d : (ax[j].1.toList == n.toList) = true := by rw [txt_beq]; exact decide_eq_true e
        clear e hd HIT END hk
        generalize ax[j].1 = aj at *
        go_wp2_with fail
        go_ret
        exact ⟨by rw [E.out]; rfl, rfl⟩
      · have d : (ax[j].1.toList == n.toList) = false := by rw [txt_beq]; exact decide_eq_false e
        have hd' : Hid (∀ m (_ : m < ax.length), m < j + 1 → ¬ ax[m].1 = n) := by
          intro m hm hmj
          rcases Nat.lt_or_ge m j with q | q
          · exact hd.out m hm q
          · obtain rfl : m = j := by omega
            exact e
        clear e hd HIT END hk
        generalize ax[j].1 = aj at *
        go_wp2_with fail
        go_round
        case rel => exact ⟨j + 1, by omega, by go_num, hd'⟩
        case measure => simp [intOf]; omega
    · obtain rfl : j = ax.length := by omega
      have E := hide (END.out (fun m hm => hd.out m hm hm))
      clear hd HIT END hk
      go_wp2_with fail
      go_ret
      exact ⟨by rw [E.out]; rfl, rfl⟩

end Go.Proofs.Ytmobcijigiacoaa
